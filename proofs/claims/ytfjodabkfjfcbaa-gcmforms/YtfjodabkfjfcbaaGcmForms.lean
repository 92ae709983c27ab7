/-
  Proved: halberdlaw5.GcmForms answers true at every input: which keys, nonces and texts are sealed, opened and hashed. Conditions: none but the row's.
-/
import Derived.Test.YtfjodabkfjfcbaaGcW
import Derived.Test.YtfjodabkfjfcbaaRows
import Derived.WalkKit
import Derived.ProofKit
import Derived.OpenShut
import Derived.ShutString
import Derived.Below
import Derived.ChangeOld
namespace Go.Proofs.Ytfjodabkfjfcbaa.gcmForms
open Go.ChangeShapes Go.WideShapes Go.ChangeAt Go.RowKit
open Go.ChangeMaps (open_string shut_string)
set_option linter.unusedVariables false

theorem own : ownKnob Try.prog.godebug = none := by kernel_rfl

open Go.Proofs.Im (ready_one2 ready_call2 wpAny_two)
set_option maxHeartbeats 8000000 in
set_option maxRecDepth 100000 in
theorem walk (a0 : Int) (a1 : Int) (a2 : Int) (a3 : Int) (_w0 : (Lit.int .i64 a0).wf = true) (_w1 : (Lit.int .i64 a1).wf = true) (_w2 : (Lit.int .i64 a2).wf = true) (_w3 : (Lit.int .i64 a3).wf = true) (w : World) :
    Calls Try.prog 7 #[.int .i64 a0, .int .i64 a1, .int .i64 a2, .int .i64 a3] w fun e w' => e = .returned (.bool true) ∧ Below w.heap.size w w' := by
  clear _w0 _w1 _w2 _w3
  have HB : Hid (Below w.heap.size w w) := Below.refl _ _
  obtain ⟨x, hx, hmx⟩ := Lw.maskN63 a0
  obtain ⟨y, hy, hmy⟩ := Lw.maskN15 a1
  obtain ⟨b, hb, hmb⟩ := Lw.maskN127 a2
  obtain ⟨r, hr, hmr⟩ := Lw.maskN15 a3
  obtain ⟨q, hq, hmq⟩ := Lw.maskN3 a3
  obtain ⟨s14, hs14⟩ : ∃ s : Nat, s = 14 + q := ⟨_, rfl⟩
  have he14 : Hid (IntKind.i64.wrap (14 + (q : Int)) = (s14 : Int)) := by show IntKind.i64.wrap (14 + (q : Int)) = (s14 : Int); rw [IntWalk.i64_in _ (by omega)]; omega
  obtain ⟨MX, h1X, h2X, hmkX0⟩ := Lw.zeros x (by omega)
  have hmkX : ∀ W : World, (Instr.makeSlice 32 (.int .i64 (x : Int)) (.int .i64 (x : Int))).run Try.prog W = .ok (.slice (some ⟨W.heap.size, 0, none⟩) x x) (W.alloc (.cells MX 5)) := hmkX0
  have HMX : Hid (MX.size = x ∧ ∀ i, i < x → MX[i]? = some (.int .u8 0)) := ⟨h1X, h2X⟩
  clear h1X h2X hmkX0
  obtain ⟨MY, h1Y, h2Y, hmkY0⟩ := Lw.zeros y (by omega)
  have hmkY : ∀ W : World, (Instr.makeSlice 32 (.int .i64 (y : Int)) (.int .i64 (y : Int))).run Try.prog W = .ok (.slice (some ⟨W.heap.size, 0, none⟩) y y) (W.alloc (.cells MY 5)) := hmkY0
  have HMY : Hid (MY.size = y ∧ ∀ i, i < y → MY[i]? = some (.int .u8 0)) := ⟨h1Y, h2Y⟩
  clear h1Y h2Y hmkY0
  obtain ⟨MB, h1B, h2B, hmkB0⟩ := Lw.zeros b (by omega)
  have hmkB : ∀ W : World, (Instr.makeSlice 32 (.int .i64 (b : Int)) (.int .i64 (b : Int))).run Try.prog W = .ok (.slice (some ⟨W.heap.size, 0, none⟩) b b) (W.alloc (.cells MB 5)) := hmkB0
  have HMB : Hid (MB.size = b ∧ ∀ i, i < b → MB[i]? = some (.int .u8 0)) := ⟨h1B, h2B⟩
  clear h1B h2B hmkB0
  obtain ⟨MR, h1R, h2R, hmkR0⟩ := Lw.zeros r (by omega)
  have hmkR : ∀ W : World, (Instr.makeSlice 32 (.int .i64 (r : Int)) (.int .i64 (r : Int))).run Try.prog W = .ok (.slice (some ⟨W.heap.size, 0, none⟩) r r) (W.alloc (.cells MR 5)) := hmkR0
  have HMR : Hid (MR.size = r ∧ ∀ i, i < r → MR[i]? = some (.int .u8 0)) := ⟨h1R, h2R⟩
  clear h1R h2R hmkR0
  obtain ⟨MQ, h1Q, h2Q, hmkQ0⟩ := Lw.zeros s14 (by omega)
  have hmkQ : ∀ W : World, (Instr.makeSlice 32 (.int .i64 (s14 : Int)) (.int .i64 (s14 : Int))).run Try.prog W = .ok (.slice (some ⟨W.heap.size, 0, none⟩) s14 s14) (W.alloc (.cells MQ 5)) := hmkQ0
  have HMQ : Hid (MQ.size = s14 ∧ ∀ i, i < s14 → MQ[i]? = some (.int .u8 0)) := ⟨h1Q, h2Q⟩
  clear h1Q h2Q hmkQ0
  obtain ⟨MZ, h1Z, h2Z, hmkZ0⟩ := Lw.zeros 16 (by decide)
  have hmkZ : ∀ W : World, (Instr.makeSlice 32 (.int .i64 16) (.int .i64 16)).run Try.prog W = .ok (.slice (some ⟨W.heap.size, 0, none⟩) 16 16) (W.alloc (.cells MZ 5)) := hmkZ0
  have HMZ : Hid (MZ.size = 16 ∧ ∀ i, i < 16 → MZ[i]? = some (.int .u8 0)) := ⟨h1Z, h2Z⟩
  clear h1Z h2Z hmkZ0
  obtain ⟨MT, h1T, h2T, hmkT0⟩ := Lw.zeros 65537 (by decide)
  have hmkT : ∀ W : World, (Instr.makeSlice 32 (.int .i64 65537) (.int .i64 65537)).run Try.prog W = .ok (.slice (some ⟨W.heap.size, 0, none⟩) 65537 65537) (W.alloc (.cells MT 5)) := hmkT0
  have HMT : Hid (MT.size = 65537 ∧ ∀ i, i < 65537 → MT[i]? = some (.int .u8 0)) := ⟨h1T, h2T⟩
  clear h1T h2T hmkT0
  obtain ⟨KX, hsX, hcX⟩ := Lw.nought_text x
  have hKX := Lib.hid hcX
  clear hcX
  obtain ⟨KY, hsY, hcY⟩ := Lw.nought_text y
  have hKY := Lib.hid hcY
  clear hcY
  obtain ⟨KB, hsB, hcB⟩ := Lw.nought_text b
  have hKB := Lib.hid hcB
  clear hcB
  obtain ⟨KR, hsR, hcR⟩ := Lw.nought_text r
  have hKR := Lib.hid hcR
  clear hcR
  obtain ⟨KT, hsT, hcT⟩ := Lw.nought_text 65537
  have hKT := Lib.hid hcT
  clear hcT
  have hKQ := Lib.hid fun W g (h : Lw.RowB W g s14 (fun _ => 0)) => h.text 0 s14 s14 (by omega)
  have hQz : s14 = 16 → Lw.pieceS (fun _ => 0) 0 s14 = Gcm.z16 := fun h => by rw [h]; rfl
  have hsQ : (Lw.pieceS (fun _ => 0) 0 s14).size = s14 := Lw.pieceS_size _ _ _
  generalize Lw.pieceS (fun _ => 0) 0 s14 = KQ at hKQ hQz hsQ
  have hKZ := Lib.hid fun W g (h : Lw.RowB W g 16 (fun _ => 0)) => Gs.nought16 W g h
  have HH : Hid ((q = 2 ∧ b % 16 = 0 ∧ Gcm.z16 = Gcm.ghashS KQ KB ∧ 0 = Gcm.ghashE KQ KB) ∨ (¬ (q = 2 ∧ b % 16 = 0) ∧ 500 = Gcm.ghashE KQ KB)) := by
    by_cases h : q = 2 ∧ b % 16 = 0
    · have ok := Gcm.hash_ok (h := KQ) (s := KB) (by omega) (by rw [hsB]; exact h.2)
      refine Or.inl ⟨h.1, h.2, ?_, ok.2.symm⟩
      rw [ok.1, hQz (by omega), Gcm.ghS_zero]
    · exact Or.inr ⟨h, (Gcm.hash_no (h := KQ) (s := KB) (fun hh => h ⟨by omega, by rw [hsB] at hh; exact hh.2⟩)).2.symm⟩
  have kH := Lib.hid fun W => Gs.hash_any KQ KB W (by omega)
  have kS1 := Lib.hid fun W => Gs.seal_any Gcm.z16 Gcm.z12 KT ⟨#[]⟩ W
  have kS2 := Lib.hid fun W => Gs.seal_any Gcm.z16 Gcm.z12 ⟨#[]⟩ KT W
  have n1 := Gcm.gcm_no (key := Gcm.z16) (nonce := Gcm.z12) (aad := KT) (s := ⟨#[]⟩) (Bool.eq_false_iff.2 fun h => by have := ((Gcm.gcmOk_iff _ _ _ _ _).1 h).2.2.1; omega)
  have n2 := Gcm.gcm_no (key := Gcm.z16) (nonce := Gcm.z12) (aad := ⟨#[]⟩) (s := KT) (Bool.eq_false_iff.2 fun h => by have := ((Gcm.gcmOk_iff _ _ _ _ _).1 h).2.2.2; omega)
  rw [n1.1, n1.2] at kS1
  rw [n2.1, n2.2] at kS2
  clear n1 n2
  have hz0 : Hid (Gcm.z16.size = 16) := by show Gcm.z16.size = 16; decide
  have hx0 : Hid (Gcm.z16.extract 0 12 = Gcm.z12) := by show Gcm.z16.extract 0 12 = Gcm.z12; decide +kernel
  generalize Gcm.ghashS KQ KB = TS at HH kH
  generalize Gcm.ghashE KQ KB = EH at HH kH
  have kS := Lib.hid fun W => Gs.seal_any KX KY ⟨#[]⟩ ⟨#[97]⟩ W
  have kO := Lib.hid fun W => Gs.open_any KX KY ⟨#[]⟩ KR W
  have HF : Hid (((x = 16 ∨ x = 32) ∧ y = 12 ∧ 0 = Gcm.gcmE KX KY ⟨#[]⟩ ⟨#[97]⟩ ∧ 501 = Gcm.openE KX KY ⟨#[]⟩ KR) ∨ (¬ ((x = 16 ∨ x = 32) ∧ y = 12) ∧ 500 = Gcm.gcmE KX KY ⟨#[]⟩ ⟨#[97]⟩ ∧ 500 = Gcm.openE KX KY ⟨#[]⟩ KR)) := by
    by_cases h : (x = 16 ∨ x = 32) ∧ y = 12
    · have kk : KX.size = 16 ∨ KX.size = 32 := by rw [hsX]; exact h.1
      exact Or.inl ⟨h.1, h.2, (Gcm.gcm_ok (Gcm.gcmOk_of kk (by omega) (by decide) (by decide))).2.symm, (Gcm.open_short (Gcm.gcmOk_of kk (by omega) (by decide) (by omega)) (by omega)).2.symm⟩
    · refine Or.inr ⟨h, (Gcm.gcm_no (Bool.eq_false_iff.2 fun hh => ?_)).2.symm, (Gcm.open_no (Bool.eq_false_iff.2 fun hh => ?_)).2.symm⟩
      · have := (Gcm.gcmOk_iff _ _ _ _ _).1 hh; rw [hsX, hsY] at this; exact h ⟨this.1, this.2.1⟩
      · have := (Gcm.gcmOk_iff _ _ _ _ _).1 hh; rw [hsX, hsY] at this; exact h ⟨this.1, this.2.1⟩
  generalize Gcm.gcmS KX KY ⟨#[]⟩ ⟨#[97]⟩ = T1 at kS
  generalize Gcm.gcmE KX KY ⟨#[]⟩ ⟨#[97]⟩ = E1 at kS HF
  generalize Gcm.openS KX KY ⟨#[]⟩ KR = T2 at kO
  generalize Gcm.openE KX KY ⟨#[]⟩ KR = E2 at kO HF
  generalize Gcm.z16 = Z at *
  generalize Gcm.z12 = N at *
  clear hx hy hb hr hq hs14 hsX hsY hsB hsR hsT hsQ hQz
  have h5 : (x = 16 ∧ y = 12 ∧ 0 = E1 ∧ 501 = E2) ∨ (x = 32 ∧ y = 12 ∧ 0 = E1 ∧ 501 = E2) ∨ (x = 16 ∧ ¬ y = 12 ∧ 500 = E1 ∧ 500 = E2) ∨ (x = 32 ∧ ¬ y = 12 ∧ 500 = E1 ∧ 500 = E2) ∨ (¬ x = 16 ∧ ¬ x = 32 ∧ 500 = E1 ∧ 500 = E2) := by have := HF.out; omega
  clear HF
  rcases h5 with h5 | h5 | h5 | h5 | h5
  all_goals
    obtain ⟨h51, h52, hE1, hE2⟩ := h5
    have HE1 := Lib.hid hE1
    have HE2 := Lib.hid hE2
    clear hE1 hE2
    try have e1 : ((x : Int) == 16) = true := by simp; omega
    try have e2 : ((x : Int) == 16) = false := by simp; omega
    try have e3 : ((x : Int) == 32) = true := by simp; omega
    try have e4 : ((x : Int) == 32) = false := by simp; omega
    try have e5 : ((y : Int) == 12) = true := by simp; omega
    try have e6 : ((y : Int) == 12) = false := by simp; omega
    clear h51 h52
    go_enter Try.func7, Try.ntmps7
    go_wp2_with (fail)
    refine (Gs.awake5_any _).mono ?_
    rintro e u ⟨rfl, hb⟩
    have HB := Lib.hid (Lw.go_on HB.out hb)
    clear hb
    go_upto_region 5 with (fail)
    refine wp_region_any (by kernel_rfl) ?_
    change wpAny _ _ _ _ _ _ _ u.drew
    have HB : Hid (Below w.heap.size w u.drew) := HB.out.drew
    generalize u.drew = D at HB ⊢
    refine Lw.take_to (i := 0) (some 43) (.int .i64 (x : Int)) rfl rfl (by kernel_rfl) (by kernel_rfl) (by kernel_rfl) (fun _ _ _ h => h) (Or.inl ⟨by rfl, fun w => by go_simp⟩) ?_
    simp only [Act.put, List.setIfInBounds_toArray, List.set_cons_zero, List.set_cons_succ]
    refine Lw.take_to (i := 3) (some 46) (.int .i64 (y : Int)) rfl rfl (by kernel_rfl) (by kernel_rfl) (by kernel_rfl) (fun _ _ _ h => h) (Or.inl ⟨by rfl, fun w => by go_simp⟩) ?_
    simp only [Act.put, List.setIfInBounds_toArray, List.set_cons_zero, List.set_cons_succ]
    refine Lw.meetA (fun (gs : Nat × Nat) a => ((((a.put (some 44) (.slice (some ⟨gs.1, 0, none⟩) x x)).put (some 45) (.string KX)).put (some 47) (.slice (some ⟨gs.2, 0, none⟩) y y)).put (some 48) (.string KY))) #[true, true, true, true, true, true, false, false, false, false, false, false] 6 (fun (gs : Nat × Nat) W => Below w.heap.size w W) ?_ (fun key220 => ?_)
    · rintro ⟨g0, g1⟩ W hb
      simp only [Act.put, List.setIfInBounds_toArray, List.set_cons_zero, List.set_cons_succ]
      have HB := Lib.hid hb
      clear hb
      refine wpAny_ready (rs := [6]) (by kernel_rfl) (by simp) ?_
      refine ready_call2 (some 49) rfl rfl rfl 9 _ _ rfl (fun _ _ => by go_simp) #[.string KX, .string KY, .string ⟨#[]⟩, .string ⟨#[97]⟩] (by kernel_rfl) ?_ AllReady.nil
      refine (kS.out _).mono ?_
      rintro e v ⟨rfl, hb⟩
      refine ⟨_, rfl, ?_⟩
      have HB := Lib.hid (Lw.go_on HB.out hb)
      clear hb
      simp only [Act.put, List.setIfInBounds_toArray, List.set_cons_zero, List.set_cons_succ]
      refine Lw.take_to (i := 7) (some 42) (.tuple #[.string T1, .int .i64 E1]) rfl rfl (by kernel_rfl) (by kernel_rfl) (by kernel_rfl) (fun _ _ _ h => h) (Or.inl ⟨by rfl, fun w => by go_simp⟩) ?_
      simp only [Act.put, List.setIfInBounds_toArray, List.set_cons_zero, List.set_cons_succ]
      refine Lw.take_to (i := 8) (some 50) (.string T1) rfl rfl (by kernel_rfl) (by kernel_rfl) (by kernel_rfl) (fun _ _ _ h => h) (Or.inl ⟨by rfl, fun w => by go_simp⟩) ?_
      simp only [Act.put, List.setIfInBounds_toArray, List.set_cons_zero, List.set_cons_succ]
      refine Lw.take_to (i := 9) (some 51) (.int .i64 E1) rfl rfl (by kernel_rfl) (by kernel_rfl) (by kernel_rfl) (fun _ _ _ h => h) (Or.inl ⟨by rfl, fun w => by go_simp⟩) ?_
      simp only [Act.put, List.setIfInBounds_toArray, List.set_cons_zero, List.set_cons_succ]
      refine Lw.take_to (i := 10) (some 12) (.string T1) rfl rfl (by kernel_rfl) (by kernel_rfl) (by kernel_rfl) (fun _ _ _ h => h) (Or.inl ⟨by rfl, fun w => by go_simp⟩) ?_
      simp only [Act.put, List.setIfInBounds_toArray, List.set_cons_zero, List.set_cons_succ]
      refine Lw.take_to (i := 11) (some 13) (.int .i64 E1) rfl rfl (by kernel_rfl) (by kernel_rfl) (by kernel_rfl) (fun _ _ _ h => h) (Or.inl ⟨by rfl, fun w => by go_simp⟩) ?_
      simp only [Act.put, List.setIfInBounds_toArray, List.set_cons_zero, List.set_cons_succ]
      refine wpAny_done (by kernel_rfl) ?_ _
      go_upto_region 6 with (fail)
      refine wp_region_any (by kernel_rfl) ?_
      change wpAny _ _ _ _ _ _ _ v.drew
      have HB : Hid (Below w.heap.size w v.drew) := HB.out.drew
      generalize v.drew = D at HB ⊢
      refine Lw.take_to (i := 0) (some 53) (.int .i64 (x : Int)) rfl rfl (by kernel_rfl) (by kernel_rfl) (by kernel_rfl) (fun _ _ _ h => h) (Or.inl ⟨by rfl, fun w => by go_simp⟩) ?_
      simp only [Act.put, List.setIfInBounds_toArray, List.set_cons_zero, List.set_cons_succ]
      refine Lw.take_to (i := 3) (some 56) (.int .i64 (y : Int)) rfl rfl (by kernel_rfl) (by kernel_rfl) (by kernel_rfl) (fun _ _ _ h => h) (Or.inl ⟨by rfl, fun w => by go_simp⟩) ?_
      simp only [Act.put, List.setIfInBounds_toArray, List.set_cons_zero, List.set_cons_succ]
      refine Lw.take_to (i := 6) (some 59) (.int .i64 a3) rfl rfl (by kernel_rfl) (by kernel_rfl) (by kernel_rfl) (fun _ _ _ h => h) (Or.inl ⟨by rfl, fun w => by go_simp⟩) ?_
      simp only [Act.put, List.setIfInBounds_toArray, List.set_cons_zero, List.set_cons_succ]
      refine Lw.take_to (i := 7) (some 60) (.int .i64 (r : Int)) rfl rfl (by kernel_rfl) (by kernel_rfl) (by kernel_rfl) (fun _ _ _ h => h) (Or.inl ⟨by rfl, fun w => by go_simp⟩) ?_
      simp only [Act.put, List.setIfInBounds_toArray, List.set_cons_zero, List.set_cons_succ]
      refine Lw.meetA (fun (gs : Nat × Nat × Nat) a => ((((((a.put (some 54) (.slice (some ⟨gs.1, 0, none⟩) x x)).put (some 55) (.string KX)).put (some 57) (.slice (some ⟨gs.2.1, 0, none⟩) y y)).put (some 58) (.string KY)).put (some 61) (.slice (some ⟨gs.2.2, 0, none⟩) r r)).put (some 62) (.string KR))) #[true, true, true, true, true, true, true, true, true, true, false, false, false, false, false, false] 6 (fun (gs : Nat × Nat × Nat) W => Below w.heap.size w W) ?_ (fun key2220 => ?_)
      · rintro ⟨g0, g1, g2⟩ W hb
        simp only [Act.put, List.setIfInBounds_toArray, List.set_cons_zero, List.set_cons_succ]
        have HB := Lib.hid hb
        clear hb
        refine wpAny_ready (rs := [10]) (by kernel_rfl) (by simp) ?_
        refine ready_call2 (some 63) rfl rfl rfl 11 _ _ rfl (fun _ _ => by go_simp) #[.string KX, .string KY, .string ⟨#[]⟩, .string KR] (by kernel_rfl) ?_ AllReady.nil
        refine (kO.out _).mono ?_
        rintro e v ⟨rfl, hb⟩
        refine ⟨_, rfl, ?_⟩
        have HB := Lib.hid (Lw.go_on HB.out hb)
        clear hb
        simp only [Act.put, List.setIfInBounds_toArray, List.set_cons_zero, List.set_cons_succ]
        refine Lw.take_to (i := 11) (some 52) (.tuple #[.string T2, .int .i64 E2]) rfl rfl (by kernel_rfl) (by kernel_rfl) (by kernel_rfl) (fun _ _ _ h => h) (Or.inl ⟨by rfl, fun w => by go_simp⟩) ?_
        simp only [Act.put, List.setIfInBounds_toArray, List.set_cons_zero, List.set_cons_succ]
        refine Lw.take_to (i := 12) (some 64) (.string T2) rfl rfl (by kernel_rfl) (by kernel_rfl) (by kernel_rfl) (fun _ _ _ h => h) (Or.inl ⟨by rfl, fun w => by go_simp⟩) ?_
        simp only [Act.put, List.setIfInBounds_toArray, List.set_cons_zero, List.set_cons_succ]
        refine Lw.take_to (i := 13) (some 65) (.int .i64 E2) rfl rfl (by kernel_rfl) (by kernel_rfl) (by kernel_rfl) (fun _ _ _ h => h) (Or.inl ⟨by rfl, fun w => by go_simp⟩) ?_
        simp only [Act.put, List.setIfInBounds_toArray, List.set_cons_zero, List.set_cons_succ]
        refine Lw.take_to (i := 14) (some 14) (.string T2) rfl rfl (by kernel_rfl) (by kernel_rfl) (by kernel_rfl) (fun _ _ _ h => h) (Or.inl ⟨by rfl, fun w => by go_simp⟩) ?_
        simp only [Act.put, List.setIfInBounds_toArray, List.set_cons_zero, List.set_cons_succ]
        refine Lw.take_to (i := 15) (some 15) (.int .i64 E2) rfl rfl (by kernel_rfl) (by kernel_rfl) (by kernel_rfl) (fun _ _ _ h => h) (Or.inl ⟨by rfl, fun w => by go_simp⟩) ?_
        simp only [Act.put, List.setIfInBounds_toArray, List.set_cons_zero, List.set_cons_succ]
        refine wpAny_done (by kernel_rfl) ?_ _
        go_upto_region 8 with (fail)
        refine wp_region_any (by kernel_rfl) ?_
        change wpAny _ _ _ _ _ _ _ v.drew
        have HB : Hid (Below w.heap.size w v.drew) := HB.out.drew
        generalize v.drew = D at HB ⊢
        refine Lw.take_to (i := 0) (some 69) (.int .i64 a3) rfl rfl (by kernel_rfl) (by kernel_rfl) (by kernel_rfl) (fun _ _ _ h => h) (Or.inl ⟨by rfl, fun w => by go_simp⟩) ?_
        simp only [Act.put, List.setIfInBounds_toArray, List.set_cons_zero, List.set_cons_succ]
        refine Lw.take_to (i := 1) (some 70) (.int .i64 (q : Int)) rfl rfl (by kernel_rfl) (by kernel_rfl) (by kernel_rfl) (fun _ _ _ h => h) (Or.inl ⟨by rfl, fun w => by go_simp⟩) ?_
        simp only [Act.put, List.setIfInBounds_toArray, List.set_cons_zero, List.set_cons_succ]
        refine Lw.take_to (i := 2) (some 71) (.int .i64 (s14 : Int)) rfl rfl (by kernel_rfl) (by kernel_rfl) (by kernel_rfl) (fun _ _ _ h => h) (Or.inl ⟨by rfl, fun w => by have e14 := he14.out; go_simp⟩) ?_
        simp only [Act.put, List.setIfInBounds_toArray, List.set_cons_zero, List.set_cons_succ]
        refine Lw.take_to (i := 5) (some 74) (.int .i64 (b : Int)) rfl rfl (by kernel_rfl) (by kernel_rfl) (by kernel_rfl) (fun _ _ _ h => h) (Or.inl ⟨by rfl, fun w => by go_simp⟩) ?_
        simp only [Act.put, List.setIfInBounds_toArray, List.set_cons_zero, List.set_cons_succ]
        refine Lw.meetA (fun (gs : Nat × Nat) a => ((((a.put (some 72) (.slice (some ⟨gs.1, 0, none⟩) s14 s14)).put (some 73) (.string KQ)).put (some 75) (.slice (some ⟨gs.2, 0, none⟩) b b)).put (some 76) (.string KB))) #[true, true, true, true, true, true, true, true, false, false, false, false, false, false] 6 (fun (gs : Nat × Nat) W => Below w.heap.size w W) ?_ (fun key220 => ?_)
        · rintro ⟨g0, g1⟩ W hb
          simp only [Act.put, List.setIfInBounds_toArray, List.set_cons_zero, List.set_cons_succ]
          have HB := Lib.hid hb
          clear hb
          refine wpAny_ready (rs := [8]) (by kernel_rfl) (by simp) ?_
          refine ready_call2 (some 77) rfl rfl rfl 13 _ _ rfl (fun _ _ => by go_simp) #[.string KQ, .string KB] (by kernel_rfl) ?_ AllReady.nil
          refine (kH.out _).mono ?_
          rintro e v ⟨rfl, hb⟩
          refine ⟨_, rfl, ?_⟩
          have HB := Lib.hid (Lw.go_on HB.out hb)
          clear hb
          simp only [Act.put, List.setIfInBounds_toArray, List.set_cons_zero, List.set_cons_succ]
          refine Lw.take_to (i := 9) (some 68) (.tuple #[.string TS, .int .i64 EH]) rfl rfl (by kernel_rfl) (by kernel_rfl) (by kernel_rfl) (fun _ _ _ h => h) (Or.inl ⟨by rfl, fun w => by go_simp⟩) ?_
          simp only [Act.put, List.setIfInBounds_toArray, List.set_cons_zero, List.set_cons_succ]
          refine Lw.take_to (i := 10) (some 78) (.string TS) rfl rfl (by kernel_rfl) (by kernel_rfl) (by kernel_rfl) (fun _ _ _ h => h) (Or.inl ⟨by rfl, fun w => by go_simp⟩) ?_
          simp only [Act.put, List.setIfInBounds_toArray, List.set_cons_zero, List.set_cons_succ]
          refine Lw.take_to (i := 11) (some 79) (.int .i64 EH) rfl rfl (by kernel_rfl) (by kernel_rfl) (by kernel_rfl) (fun _ _ _ h => h) (Or.inl ⟨by rfl, fun w => by go_simp⟩) ?_
          simp only [Act.put, List.setIfInBounds_toArray, List.set_cons_zero, List.set_cons_succ]
          refine Lw.take_to (i := 12) (some 17) (.string TS) rfl rfl (by kernel_rfl) (by kernel_rfl) (by kernel_rfl) (fun _ _ _ h => h) (Or.inl ⟨by rfl, fun w => by go_simp⟩) ?_
          simp only [Act.put, List.setIfInBounds_toArray, List.set_cons_zero, List.set_cons_succ]
          refine Lw.take_to (i := 13) (some 18) (.int .i64 EH) rfl rfl (by kernel_rfl) (by kernel_rfl) (by kernel_rfl) (fun _ _ _ h => h) (Or.inl ⟨by rfl, fun w => by go_simp⟩) ?_
          simp only [Act.put, List.setIfInBounds_toArray, List.set_cons_zero, List.set_cons_succ]
          refine wpAny_done (by kernel_rfl) ?_ _
          rcases HH.out with ⟨hq, hb16, hTS, hEH⟩ | ⟨hn, hEH⟩
          · have q1 : ((q : Int) == 2) = true := by rw [hq]; rfl
            have b1 : ((b : Int) % 16 == 0) = true := by simp; omega
            have b2 : (((b : Int).tmod 16) == 0) = true := by rw [Int.tmod_eq_emod_of_nonneg (by omega)]; exact b1
            clear hq hb16 HH
            subst hTS
            subst hEH
            go_upto_region 10 with (fail)
            apply wp_region_lit
            have R16 := Lw.rowB_new v MZ 16 HMZ.out.1 HMZ.out.2
            have cz := hKZ.out _ _ R16
            refine Lw.wpList_val rfl (.slice (some ⟨v.heap.size, 0, none⟩) 16 16) (v.alloc (.cells MZ 5)) (by go_simp) ?_
            refine Lw.wpList_val rfl (.string Z) (v.alloc (.cells MZ 5)) (by go_simp) ?_
            simp only [Act.put, List.setIfInBounds_toArray, List.set_cons_zero, List.set_cons_succ]
            have HB : Hid (Below w.heap.size w (v.alloc (.cells MZ 5))) := HB.out.alloc HB.out.size _
            clear R16 cz
            generalize v.alloc (.cells MZ 5) = w9 at HB ⊢
            go_upto_region 11 with (fail)
            refine wp_region_any (by kernel_rfl) ?_
            change wpAny _ _ _ _ _ _ _ w9.drew
            have HB : Hid (Below w.heap.size w w9.drew) := HB.out.drew
            generalize w9.drew = D at HB ⊢
            refine Lw.take_to (i := 0) (some 91) (.string Z) rfl rfl (by kernel_rfl) (by kernel_rfl) (by kernel_rfl) (fun _ _ _ h => h) (Or.inl ⟨by rfl, fun w => by go_simp⟩) ?_
            simp only [Act.put, List.setIfInBounds_toArray, List.set_cons_zero, List.set_cons_succ]
            refine Lw.take_to (i := 1) (some 92) (.string Z) rfl rfl (by kernel_rfl) (by kernel_rfl) (by kernel_rfl) (fun _ _ _ h => h) (Or.inl ⟨by rfl, fun w => by go_simp⟩) ?_
            simp only [Act.put, List.setIfInBounds_toArray, List.set_cons_zero, List.set_cons_succ]
            refine Lw.take_to (i := 2) (some 93) (.string N) rfl rfl (by kernel_rfl) (by kernel_rfl) (by kernel_rfl) (fun _ _ _ h => h) (Or.inl ⟨by rfl, fun w => by have hz := hz0.out; have hx := hx0.out; go_simp⟩) ?_
            simp only [Act.put, List.setIfInBounds_toArray, List.set_cons_zero, List.set_cons_succ]
            refine Lw.meetA (fun (gs : Nat) a => ((a.put (some 94) (.slice (some ⟨gs, 0, none⟩) 65537 65537)).put (some 95) (.string KT))) #[true, true, true, true, true, false, false, false, false, false, false] 6 (fun (gs : Nat) W => Below w.heap.size w W) ?_ (fun key20 => ?_)
            · rintro g0 W hb
              simp only [Act.put, List.setIfInBounds_toArray, List.set_cons_zero, List.set_cons_succ]
              have HB := Lib.hid hb
              clear hb
              refine wpAny_ready (rs := [5]) (by kernel_rfl) (by simp) ?_
              refine ready_call2 (some 96) rfl rfl rfl 9 _ _ rfl (fun _ _ => by go_simp) #[.string Z, .string N, .string KT, .string ⟨#[]⟩] (by kernel_rfl) ?_ AllReady.nil
              refine (kS1.out _).mono ?_
              rintro e v ⟨rfl, hb⟩
              refine ⟨_, rfl, ?_⟩
              have HB := Lib.hid (Lw.go_on HB.out hb)
              clear hb
              simp only [Act.put, List.setIfInBounds_toArray, List.set_cons_zero, List.set_cons_succ]
              refine Lw.take_to (i := 6) (some 90) (.tuple #[.string ⟨#[]⟩, .int .i64 500]) rfl rfl (by kernel_rfl) (by kernel_rfl) (by kernel_rfl) (fun _ _ _ h => h) (Or.inl ⟨by rfl, fun w => by go_simp⟩) ?_
              simp only [Act.put, List.setIfInBounds_toArray, List.set_cons_zero, List.set_cons_succ]
              refine Lw.take_to (i := 7) (some 97) (.string ⟨#[]⟩) rfl rfl (by kernel_rfl) (by kernel_rfl) (by kernel_rfl) (fun _ _ _ h => h) (Or.inl ⟨by rfl, fun w => by go_simp⟩) ?_
              simp only [Act.put, List.setIfInBounds_toArray, List.set_cons_zero, List.set_cons_succ]
              refine Lw.take_to (i := 8) (some 98) (.int .i64 500) rfl rfl (by kernel_rfl) (by kernel_rfl) (by kernel_rfl) (fun _ _ _ h => h) (Or.inl ⟨by rfl, fun w => by go_simp⟩) ?_
              simp only [Act.put, List.setIfInBounds_toArray, List.set_cons_zero, List.set_cons_succ]
              refine Lw.take_to (i := 9) (some 21) (.string ⟨#[]⟩) rfl rfl (by kernel_rfl) (by kernel_rfl) (by kernel_rfl) (fun _ _ _ h => h) (Or.inl ⟨by rfl, fun w => by go_simp⟩) ?_
              simp only [Act.put, List.setIfInBounds_toArray, List.set_cons_zero, List.set_cons_succ]
              refine Lw.take_to (i := 10) (some 22) (.int .i64 500) rfl rfl (by kernel_rfl) (by kernel_rfl) (by kernel_rfl) (fun _ _ _ h => h) (Or.inl ⟨by rfl, fun w => by go_simp⟩) ?_
              simp only [Act.put, List.setIfInBounds_toArray, List.set_cons_zero, List.set_cons_succ]
              refine wpAny_done (by kernel_rfl) ?_ _
              go_upto_region 12 with (fail)
              refine wp_region_any (by kernel_rfl) ?_
              change wpAny _ _ _ _ _ _ _ v.drew
              have HB : Hid (Below w.heap.size w v.drew) := HB.out.drew
              generalize v.drew = D at HB ⊢
              refine Lw.take_to (i := 0) (some 100) (.string Z) rfl rfl (by kernel_rfl) (by kernel_rfl) (by kernel_rfl) (fun _ _ _ h => h) (Or.inl ⟨by rfl, fun w => by go_simp⟩) ?_
              simp only [Act.put, List.setIfInBounds_toArray, List.set_cons_zero, List.set_cons_succ]
              refine Lw.take_to (i := 1) (some 101) (.string Z) rfl rfl (by kernel_rfl) (by kernel_rfl) (by kernel_rfl) (fun _ _ _ h => h) (Or.inl ⟨by rfl, fun w => by go_simp⟩) ?_
              simp only [Act.put, List.setIfInBounds_toArray, List.set_cons_zero, List.set_cons_succ]
              refine Lw.take_to (i := 2) (some 102) (.string N) rfl rfl (by kernel_rfl) (by kernel_rfl) (by kernel_rfl) (fun _ _ _ h => h) (Or.inl ⟨by rfl, fun w => by have hz := hz0.out; have hx := hx0.out; go_simp⟩) ?_
              simp only [Act.put, List.setIfInBounds_toArray, List.set_cons_zero, List.set_cons_succ]
              refine Lw.meetA (fun (gs : Nat) a => ((a.put (some 103) (.slice (some ⟨gs, 0, none⟩) 65537 65537)).put (some 104) (.string KT))) #[true, true, true, true, true, false, false, false, false, false, false] 6 (fun (gs : Nat) W => Below w.heap.size w W) ?_ (fun key20 => ?_)
              · rintro g0 W hb
                simp only [Act.put, List.setIfInBounds_toArray, List.set_cons_zero, List.set_cons_succ]
                have HB := Lib.hid hb
                clear hb
                refine wpAny_ready (rs := [5]) (by kernel_rfl) (by simp) ?_
                refine ready_call2 (some 105) rfl rfl rfl 9 _ _ rfl (fun _ _ => by go_simp) #[.string Z, .string N, .string ⟨#[]⟩, .string KT] (by kernel_rfl) ?_ AllReady.nil
                refine (kS2.out _).mono ?_
                rintro e v ⟨rfl, hb⟩
                refine ⟨_, rfl, ?_⟩
                have HB := Lib.hid (Lw.go_on HB.out hb)
                clear hb
                simp only [Act.put, List.setIfInBounds_toArray, List.set_cons_zero, List.set_cons_succ]
                refine Lw.take_to (i := 6) (some 99) (.tuple #[.string ⟨#[]⟩, .int .i64 500]) rfl rfl (by kernel_rfl) (by kernel_rfl) (by kernel_rfl) (fun _ _ _ h => h) (Or.inl ⟨by rfl, fun w => by go_simp⟩) ?_
                simp only [Act.put, List.setIfInBounds_toArray, List.set_cons_zero, List.set_cons_succ]
                refine Lw.take_to (i := 7) (some 106) (.string ⟨#[]⟩) rfl rfl (by kernel_rfl) (by kernel_rfl) (by kernel_rfl) (fun _ _ _ h => h) (Or.inl ⟨by rfl, fun w => by go_simp⟩) ?_
                simp only [Act.put, List.setIfInBounds_toArray, List.set_cons_zero, List.set_cons_succ]
                refine Lw.take_to (i := 8) (some 107) (.int .i64 500) rfl rfl (by kernel_rfl) (by kernel_rfl) (by kernel_rfl) (fun _ _ _ h => h) (Or.inl ⟨by rfl, fun w => by go_simp⟩) ?_
                simp only [Act.put, List.setIfInBounds_toArray, List.set_cons_zero, List.set_cons_succ]
                refine Lw.take_to (i := 9) (some 23) (.string ⟨#[]⟩) rfl rfl (by kernel_rfl) (by kernel_rfl) (by kernel_rfl) (fun _ _ _ h => h) (Or.inl ⟨by rfl, fun w => by go_simp⟩) ?_
                simp only [Act.put, List.setIfInBounds_toArray, List.set_cons_zero, List.set_cons_succ]
                refine Lw.take_to (i := 10) (some 24) (.int .i64 500) rfl rfl (by kernel_rfl) (by kernel_rfl) (by kernel_rfl) (fun _ _ _ h => h) (Or.inl ⟨by rfl, fun w => by go_simp⟩) ?_
                simp only [Act.put, List.setIfInBounds_toArray, List.set_cons_zero, List.set_cons_succ]
                refine wpAny_done (by kernel_rfl) ?_ _
                have hE1 := HE1.out
                have hE2 := HE2.out
                subst hE1
                subst hE2
                go_wp2_with (go_at_call 15; refine (Lw.num_same _ _).mono ?_; rintro e u ⟨rfl, rfl⟩)
                go_ret
                exact ⟨rfl, HB.out⟩
              simp only [Act.put, List.setIfInBounds_toArray, List.set_cons_zero, List.set_cons_succ] at key20
              have key2 := Lib.hid key20
              clear key20
              refine Lw.meetA (fun (gs : Nat) a => (a.put (some 103) (.slice (some ⟨gs, 0, none⟩) 65537 65537))) #[true, true, true, true, false, false, false, false, false, false, false] 7 (fun (gs : Nat) W => Below w.heap.size w W ∧ Lw.RowB W gs 65537 (fun _ => 0)) ?_ (fun key10 => ?_)
              · rintro g0 W ⟨hb, r0⟩
                simp only [Act.put, List.setIfInBounds_toArray, List.set_cons_zero, List.set_cons_succ]
                have cv0 := hKT.out W g0 r0
                refine wpAny_ready (rs := [4]) (by kernel_rfl) (by simp) ?_
                refine ready_one2 (some 104) rfl rfl rfl (.string KT) W (by go_simp) ?_ AllReady.nil
                · simp only [Act.put, List.setIfInBounds_toArray, List.set_cons_zero, List.set_cons_succ]
                  exact key2.out g0 _ (hb)
              simp only [Act.put, List.setIfInBounds_toArray, List.set_cons_zero, List.set_cons_succ] at key10
              have key1 := Lib.hid key10
              clear key10
              refine wpAny_ready (rs := [3]) (by kernel_rfl) (by simp) ?_
              refine ready_one2 (some 103) rfl rfl rfl (.slice (some ⟨D.heap.size, 0, none⟩) 65537 65537) (D.alloc (.cells MT 5)) (by go_simp) ?_ AllReady.nil
              · simp only [Act.put, List.setIfInBounds_toArray, List.set_cons_zero, List.set_cons_succ]
                exact key1.out D.heap.size _ (⟨HB.out.alloc HB.out.size _, Lw.rowB_new D MT 65537 HMT.out.1 HMT.out.2⟩)
            simp only [Act.put, List.setIfInBounds_toArray, List.set_cons_zero, List.set_cons_succ] at key20
            have key2 := Lib.hid key20
            clear key20
            refine Lw.meetA (fun (gs : Nat) a => (a.put (some 94) (.slice (some ⟨gs, 0, none⟩) 65537 65537))) #[true, true, true, true, false, false, false, false, false, false, false] 7 (fun (gs : Nat) W => Below w.heap.size w W ∧ Lw.RowB W gs 65537 (fun _ => 0)) ?_ (fun key10 => ?_)
            · rintro g0 W ⟨hb, r0⟩
              simp only [Act.put, List.setIfInBounds_toArray, List.set_cons_zero, List.set_cons_succ]
              have cv0 := hKT.out W g0 r0
              refine wpAny_ready (rs := [4]) (by kernel_rfl) (by simp) ?_
              refine ready_one2 (some 95) rfl rfl rfl (.string KT) W (by go_simp) ?_ AllReady.nil
              · simp only [Act.put, List.setIfInBounds_toArray, List.set_cons_zero, List.set_cons_succ]
                exact key2.out g0 _ (hb)
            simp only [Act.put, List.setIfInBounds_toArray, List.set_cons_zero, List.set_cons_succ] at key10
            have key1 := Lib.hid key10
            clear key10
            refine wpAny_ready (rs := [3]) (by kernel_rfl) (by simp) ?_
            refine ready_one2 (some 94) rfl rfl rfl (.slice (some ⟨D.heap.size, 0, none⟩) 65537 65537) (D.alloc (.cells MT 5)) (by go_simp) ?_ AllReady.nil
            · simp only [Act.put, List.setIfInBounds_toArray, List.set_cons_zero, List.set_cons_succ]
              exact key1.out D.heap.size _ (⟨HB.out.alloc HB.out.size _, Lw.rowB_new D MT 65537 HMT.out.1 HMT.out.2⟩)
          · by_cases hq : q = 2
            · have q1 : ((q : Int) == 2) = true := by rw [hq]; rfl
              have b1 : ((b : Int) % 16 == 0) = false := by simp; omega
              have b2 : (((b : Int).tmod 16) == 0) = false := by rw [Int.tmod_eq_emod_of_nonneg (by omega)]; exact b1
              clear hq hn HH
              subst hEH
              go_upto_region 10 with (fail)
              apply wp_region_lit
              have R16 := Lw.rowB_new v MZ 16 HMZ.out.1 HMZ.out.2
              have cz := hKZ.out _ _ R16
              refine Lw.wpList_val rfl (.slice (some ⟨v.heap.size, 0, none⟩) 16 16) (v.alloc (.cells MZ 5)) (by go_simp) ?_
              refine Lw.wpList_val rfl (.string Z) (v.alloc (.cells MZ 5)) (by go_simp) ?_
              simp only [Act.put, List.setIfInBounds_toArray, List.set_cons_zero, List.set_cons_succ]
              have HB : Hid (Below w.heap.size w (v.alloc (.cells MZ 5))) := HB.out.alloc HB.out.size _
              clear R16 cz
              generalize v.alloc (.cells MZ 5) = w9 at HB ⊢
              go_upto_region 11 with (fail)
              refine wp_region_any (by kernel_rfl) ?_
              change wpAny _ _ _ _ _ _ _ w9.drew
              have HB : Hid (Below w.heap.size w w9.drew) := HB.out.drew
              generalize w9.drew = D at HB ⊢
              refine Lw.take_to (i := 0) (some 91) (.string Z) rfl rfl (by kernel_rfl) (by kernel_rfl) (by kernel_rfl) (fun _ _ _ h => h) (Or.inl ⟨by rfl, fun w => by go_simp⟩) ?_
              simp only [Act.put, List.setIfInBounds_toArray, List.set_cons_zero, List.set_cons_succ]
              refine Lw.take_to (i := 1) (some 92) (.string Z) rfl rfl (by kernel_rfl) (by kernel_rfl) (by kernel_rfl) (fun _ _ _ h => h) (Or.inl ⟨by rfl, fun w => by go_simp⟩) ?_
              simp only [Act.put, List.setIfInBounds_toArray, List.set_cons_zero, List.set_cons_succ]
              refine Lw.take_to (i := 2) (some 93) (.string N) rfl rfl (by kernel_rfl) (by kernel_rfl) (by kernel_rfl) (fun _ _ _ h => h) (Or.inl ⟨by rfl, fun w => by have hz := hz0.out; have hx := hx0.out; go_simp⟩) ?_
              simp only [Act.put, List.setIfInBounds_toArray, List.set_cons_zero, List.set_cons_succ]
              refine Lw.meetA (fun (gs : Nat) a => ((a.put (some 94) (.slice (some ⟨gs, 0, none⟩) 65537 65537)).put (some 95) (.string KT))) #[true, true, true, true, true, false, false, false, false, false, false] 6 (fun (gs : Nat) W => Below w.heap.size w W) ?_ (fun key20 => ?_)
              · rintro g0 W hb
                simp only [Act.put, List.setIfInBounds_toArray, List.set_cons_zero, List.set_cons_succ]
                have HB := Lib.hid hb
                clear hb
                refine wpAny_ready (rs := [5]) (by kernel_rfl) (by simp) ?_
                refine ready_call2 (some 96) rfl rfl rfl 9 _ _ rfl (fun _ _ => by go_simp) #[.string Z, .string N, .string KT, .string ⟨#[]⟩] (by kernel_rfl) ?_ AllReady.nil
                refine (kS1.out _).mono ?_
                rintro e v ⟨rfl, hb⟩
                refine ⟨_, rfl, ?_⟩
                have HB := Lib.hid (Lw.go_on HB.out hb)
                clear hb
                simp only [Act.put, List.setIfInBounds_toArray, List.set_cons_zero, List.set_cons_succ]
                refine Lw.take_to (i := 6) (some 90) (.tuple #[.string ⟨#[]⟩, .int .i64 500]) rfl rfl (by kernel_rfl) (by kernel_rfl) (by kernel_rfl) (fun _ _ _ h => h) (Or.inl ⟨by rfl, fun w => by go_simp⟩) ?_
                simp only [Act.put, List.setIfInBounds_toArray, List.set_cons_zero, List.set_cons_succ]
                refine Lw.take_to (i := 7) (some 97) (.string ⟨#[]⟩) rfl rfl (by kernel_rfl) (by kernel_rfl) (by kernel_rfl) (fun _ _ _ h => h) (Or.inl ⟨by rfl, fun w => by go_simp⟩) ?_
                simp only [Act.put, List.setIfInBounds_toArray, List.set_cons_zero, List.set_cons_succ]
                refine Lw.take_to (i := 8) (some 98) (.int .i64 500) rfl rfl (by kernel_rfl) (by kernel_rfl) (by kernel_rfl) (fun _ _ _ h => h) (Or.inl ⟨by rfl, fun w => by go_simp⟩) ?_
                simp only [Act.put, List.setIfInBounds_toArray, List.set_cons_zero, List.set_cons_succ]
                refine Lw.take_to (i := 9) (some 21) (.string ⟨#[]⟩) rfl rfl (by kernel_rfl) (by kernel_rfl) (by kernel_rfl) (fun _ _ _ h => h) (Or.inl ⟨by rfl, fun w => by go_simp⟩) ?_
                simp only [Act.put, List.setIfInBounds_toArray, List.set_cons_zero, List.set_cons_succ]
                refine Lw.take_to (i := 10) (some 22) (.int .i64 500) rfl rfl (by kernel_rfl) (by kernel_rfl) (by kernel_rfl) (fun _ _ _ h => h) (Or.inl ⟨by rfl, fun w => by go_simp⟩) ?_
                simp only [Act.put, List.setIfInBounds_toArray, List.set_cons_zero, List.set_cons_succ]
                refine wpAny_done (by kernel_rfl) ?_ _
                go_upto_region 12 with (fail)
                refine wp_region_any (by kernel_rfl) ?_
                change wpAny _ _ _ _ _ _ _ v.drew
                have HB : Hid (Below w.heap.size w v.drew) := HB.out.drew
                generalize v.drew = D at HB ⊢
                refine Lw.take_to (i := 0) (some 100) (.string Z) rfl rfl (by kernel_rfl) (by kernel_rfl) (by kernel_rfl) (fun _ _ _ h => h) (Or.inl ⟨by rfl, fun w => by go_simp⟩) ?_
                simp only [Act.put, List.setIfInBounds_toArray, List.set_cons_zero, List.set_cons_succ]
                refine Lw.take_to (i := 1) (some 101) (.string Z) rfl rfl (by kernel_rfl) (by kernel_rfl) (by kernel_rfl) (fun _ _ _ h => h) (Or.inl ⟨by rfl, fun w => by go_simp⟩) ?_
                simp only [Act.put, List.setIfInBounds_toArray, List.set_cons_zero, List.set_cons_succ]
                refine Lw.take_to (i := 2) (some 102) (.string N) rfl rfl (by kernel_rfl) (by kernel_rfl) (by kernel_rfl) (fun _ _ _ h => h) (Or.inl ⟨by rfl, fun w => by have hz := hz0.out; have hx := hx0.out; go_simp⟩) ?_
                simp only [Act.put, List.setIfInBounds_toArray, List.set_cons_zero, List.set_cons_succ]
                refine Lw.meetA (fun (gs : Nat) a => ((a.put (some 103) (.slice (some ⟨gs, 0, none⟩) 65537 65537)).put (some 104) (.string KT))) #[true, true, true, true, true, false, false, false, false, false, false] 6 (fun (gs : Nat) W => Below w.heap.size w W) ?_ (fun key20 => ?_)
                · rintro g0 W hb
                  simp only [Act.put, List.setIfInBounds_toArray, List.set_cons_zero, List.set_cons_succ]
                  have HB := Lib.hid hb
                  clear hb
                  refine wpAny_ready (rs := [5]) (by kernel_rfl) (by simp) ?_
                  refine ready_call2 (some 105) rfl rfl rfl 9 _ _ rfl (fun _ _ => by go_simp) #[.string Z, .string N, .string ⟨#[]⟩, .string KT] (by kernel_rfl) ?_ AllReady.nil
                  refine (kS2.out _).mono ?_
                  rintro e v ⟨rfl, hb⟩
                  refine ⟨_, rfl, ?_⟩
                  have HB := Lib.hid (Lw.go_on HB.out hb)
                  clear hb
                  simp only [Act.put, List.setIfInBounds_toArray, List.set_cons_zero, List.set_cons_succ]
                  refine Lw.take_to (i := 6) (some 99) (.tuple #[.string ⟨#[]⟩, .int .i64 500]) rfl rfl (by kernel_rfl) (by kernel_rfl) (by kernel_rfl) (fun _ _ _ h => h) (Or.inl ⟨by rfl, fun w => by go_simp⟩) ?_
                  simp only [Act.put, List.setIfInBounds_toArray, List.set_cons_zero, List.set_cons_succ]
                  refine Lw.take_to (i := 7) (some 106) (.string ⟨#[]⟩) rfl rfl (by kernel_rfl) (by kernel_rfl) (by kernel_rfl) (fun _ _ _ h => h) (Or.inl ⟨by rfl, fun w => by go_simp⟩) ?_
                  simp only [Act.put, List.setIfInBounds_toArray, List.set_cons_zero, List.set_cons_succ]
                  refine Lw.take_to (i := 8) (some 107) (.int .i64 500) rfl rfl (by kernel_rfl) (by kernel_rfl) (by kernel_rfl) (fun _ _ _ h => h) (Or.inl ⟨by rfl, fun w => by go_simp⟩) ?_
                  simp only [Act.put, List.setIfInBounds_toArray, List.set_cons_zero, List.set_cons_succ]
                  refine Lw.take_to (i := 9) (some 23) (.string ⟨#[]⟩) rfl rfl (by kernel_rfl) (by kernel_rfl) (by kernel_rfl) (fun _ _ _ h => h) (Or.inl ⟨by rfl, fun w => by go_simp⟩) ?_
                  simp only [Act.put, List.setIfInBounds_toArray, List.set_cons_zero, List.set_cons_succ]
                  refine Lw.take_to (i := 10) (some 24) (.int .i64 500) rfl rfl (by kernel_rfl) (by kernel_rfl) (by kernel_rfl) (fun _ _ _ h => h) (Or.inl ⟨by rfl, fun w => by go_simp⟩) ?_
                  simp only [Act.put, List.setIfInBounds_toArray, List.set_cons_zero, List.set_cons_succ]
                  refine wpAny_done (by kernel_rfl) ?_ _
                  have hE1 := HE1.out
                  have hE2 := HE2.out
                  subst hE1
                  subst hE2
                  go_wp2_with (go_at_call 15; refine (Lw.num_same _ _).mono ?_; rintro e u ⟨rfl, rfl⟩)
                  go_ret
                  exact ⟨rfl, HB.out⟩
                simp only [Act.put, List.setIfInBounds_toArray, List.set_cons_zero, List.set_cons_succ] at key20
                have key2 := Lib.hid key20
                clear key20
                refine Lw.meetA (fun (gs : Nat) a => (a.put (some 103) (.slice (some ⟨gs, 0, none⟩) 65537 65537))) #[true, true, true, true, false, false, false, false, false, false, false] 7 (fun (gs : Nat) W => Below w.heap.size w W ∧ Lw.RowB W gs 65537 (fun _ => 0)) ?_ (fun key10 => ?_)
                · rintro g0 W ⟨hb, r0⟩
                  simp only [Act.put, List.setIfInBounds_toArray, List.set_cons_zero, List.set_cons_succ]
                  have cv0 := hKT.out W g0 r0
                  refine wpAny_ready (rs := [4]) (by kernel_rfl) (by simp) ?_
                  refine ready_one2 (some 104) rfl rfl rfl (.string KT) W (by go_simp) ?_ AllReady.nil
                  · simp only [Act.put, List.setIfInBounds_toArray, List.set_cons_zero, List.set_cons_succ]
                    exact key2.out g0 _ (hb)
                simp only [Act.put, List.setIfInBounds_toArray, List.set_cons_zero, List.set_cons_succ] at key10
                have key1 := Lib.hid key10
                clear key10
                refine wpAny_ready (rs := [3]) (by kernel_rfl) (by simp) ?_
                refine ready_one2 (some 103) rfl rfl rfl (.slice (some ⟨D.heap.size, 0, none⟩) 65537 65537) (D.alloc (.cells MT 5)) (by go_simp) ?_ AllReady.nil
                · simp only [Act.put, List.setIfInBounds_toArray, List.set_cons_zero, List.set_cons_succ]
                  exact key1.out D.heap.size _ (⟨HB.out.alloc HB.out.size _, Lw.rowB_new D MT 65537 HMT.out.1 HMT.out.2⟩)
              simp only [Act.put, List.setIfInBounds_toArray, List.set_cons_zero, List.set_cons_succ] at key20
              have key2 := Lib.hid key20
              clear key20
              refine Lw.meetA (fun (gs : Nat) a => (a.put (some 94) (.slice (some ⟨gs, 0, none⟩) 65537 65537))) #[true, true, true, true, false, false, false, false, false, false, false] 7 (fun (gs : Nat) W => Below w.heap.size w W ∧ Lw.RowB W gs 65537 (fun _ => 0)) ?_ (fun key10 => ?_)
              · rintro g0 W ⟨hb, r0⟩
                simp only [Act.put, List.setIfInBounds_toArray, List.set_cons_zero, List.set_cons_succ]
                have cv0 := hKT.out W g0 r0
                refine wpAny_ready (rs := [4]) (by kernel_rfl) (by simp) ?_
                refine ready_one2 (some 95) rfl rfl rfl (.string KT) W (by go_simp) ?_ AllReady.nil
                · simp only [Act.put, List.setIfInBounds_toArray, List.set_cons_zero, List.set_cons_succ]
                  exact key2.out g0 _ (hb)
              simp only [Act.put, List.setIfInBounds_toArray, List.set_cons_zero, List.set_cons_succ] at key10
              have key1 := Lib.hid key10
              clear key10
              refine wpAny_ready (rs := [3]) (by kernel_rfl) (by simp) ?_
              refine ready_one2 (some 94) rfl rfl rfl (.slice (some ⟨D.heap.size, 0, none⟩) 65537 65537) (D.alloc (.cells MT 5)) (by go_simp) ?_ AllReady.nil
              · simp only [Act.put, List.setIfInBounds_toArray, List.set_cons_zero, List.set_cons_succ]
                exact key1.out D.heap.size _ (⟨HB.out.alloc HB.out.size _, Lw.rowB_new D MT 65537 HMT.out.1 HMT.out.2⟩)
            · have q1 : ((q : Int) == 2) = false := by simp; omega
              clear hq hn HH
              subst hEH
              go_upto_region 10 with (fail)
              apply wp_region_lit
              have R16 := Lw.rowB_new v MZ 16 HMZ.out.1 HMZ.out.2
              have cz := hKZ.out _ _ R16
              refine Lw.wpList_val rfl (.slice (some ⟨v.heap.size, 0, none⟩) 16 16) (v.alloc (.cells MZ 5)) (by go_simp) ?_
              refine Lw.wpList_val rfl (.string Z) (v.alloc (.cells MZ 5)) (by go_simp) ?_
              simp only [Act.put, List.setIfInBounds_toArray, List.set_cons_zero, List.set_cons_succ]
              have HB : Hid (Below w.heap.size w (v.alloc (.cells MZ 5))) := HB.out.alloc HB.out.size _
              clear R16 cz
              generalize v.alloc (.cells MZ 5) = w9 at HB ⊢
              go_upto_region 11 with (fail)
              refine wp_region_any (by kernel_rfl) ?_
              change wpAny _ _ _ _ _ _ _ w9.drew
              have HB : Hid (Below w.heap.size w w9.drew) := HB.out.drew
              generalize w9.drew = D at HB ⊢
              refine Lw.take_to (i := 0) (some 91) (.string Z) rfl rfl (by kernel_rfl) (by kernel_rfl) (by kernel_rfl) (fun _ _ _ h => h) (Or.inl ⟨by rfl, fun w => by go_simp⟩) ?_
              simp only [Act.put, List.setIfInBounds_toArray, List.set_cons_zero, List.set_cons_succ]
              refine Lw.take_to (i := 1) (some 92) (.string Z) rfl rfl (by kernel_rfl) (by kernel_rfl) (by kernel_rfl) (fun _ _ _ h => h) (Or.inl ⟨by rfl, fun w => by go_simp⟩) ?_
              simp only [Act.put, List.setIfInBounds_toArray, List.set_cons_zero, List.set_cons_succ]
              refine Lw.take_to (i := 2) (some 93) (.string N) rfl rfl (by kernel_rfl) (by kernel_rfl) (by kernel_rfl) (fun _ _ _ h => h) (Or.inl ⟨by rfl, fun w => by have hz := hz0.out; have hx := hx0.out; go_simp⟩) ?_
              simp only [Act.put, List.setIfInBounds_toArray, List.set_cons_zero, List.set_cons_succ]
              refine Lw.meetA (fun (gs : Nat) a => ((a.put (some 94) (.slice (some ⟨gs, 0, none⟩) 65537 65537)).put (some 95) (.string KT))) #[true, true, true, true, true, false, false, false, false, false, false] 6 (fun (gs : Nat) W => Below w.heap.size w W) ?_ (fun key20 => ?_)
              · rintro g0 W hb
                simp only [Act.put, List.setIfInBounds_toArray, List.set_cons_zero, List.set_cons_succ]
                have HB := Lib.hid hb
                clear hb
                refine wpAny_ready (rs := [5]) (by kernel_rfl) (by simp) ?_
                refine ready_call2 (some 96) rfl rfl rfl 9 _ _ rfl (fun _ _ => by go_simp) #[.string Z, .string N, .string KT, .string ⟨#[]⟩] (by kernel_rfl) ?_ AllReady.nil
                refine (kS1.out _).mono ?_
                rintro e v ⟨rfl, hb⟩
                refine ⟨_, rfl, ?_⟩
                have HB := Lib.hid (Lw.go_on HB.out hb)
                clear hb
                simp only [Act.put, List.setIfInBounds_toArray, List.set_cons_zero, List.set_cons_succ]
                refine Lw.take_to (i := 6) (some 90) (.tuple #[.string ⟨#[]⟩, .int .i64 500]) rfl rfl (by kernel_rfl) (by kernel_rfl) (by kernel_rfl) (fun _ _ _ h => h) (Or.inl ⟨by rfl, fun w => by go_simp⟩) ?_
                simp only [Act.put, List.setIfInBounds_toArray, List.set_cons_zero, List.set_cons_succ]
                refine Lw.take_to (i := 7) (some 97) (.string ⟨#[]⟩) rfl rfl (by kernel_rfl) (by kernel_rfl) (by kernel_rfl) (fun _ _ _ h => h) (Or.inl ⟨by rfl, fun w => by go_simp⟩) ?_
                simp only [Act.put, List.setIfInBounds_toArray, List.set_cons_zero, List.set_cons_succ]
                refine Lw.take_to (i := 8) (some 98) (.int .i64 500) rfl rfl (by kernel_rfl) (by kernel_rfl) (by kernel_rfl) (fun _ _ _ h => h) (Or.inl ⟨by rfl, fun w => by go_simp⟩) ?_
                simp only [Act.put, List.setIfInBounds_toArray, List.set_cons_zero, List.set_cons_succ]
                refine Lw.take_to (i := 9) (some 21) (.string ⟨#[]⟩) rfl rfl (by kernel_rfl) (by kernel_rfl) (by kernel_rfl) (fun _ _ _ h => h) (Or.inl ⟨by rfl, fun w => by go_simp⟩) ?_
                simp only [Act.put, List.setIfInBounds_toArray, List.set_cons_zero, List.set_cons_succ]
                refine Lw.take_to (i := 10) (some 22) (.int .i64 500) rfl rfl (by kernel_rfl) (by kernel_rfl) (by kernel_rfl) (fun _ _ _ h => h) (Or.inl ⟨by rfl, fun w => by go_simp⟩) ?_
                simp only [Act.put, List.setIfInBounds_toArray, List.set_cons_zero, List.set_cons_succ]
                refine wpAny_done (by kernel_rfl) ?_ _
                go_upto_region 12 with (fail)
                refine wp_region_any (by kernel_rfl) ?_
                change wpAny _ _ _ _ _ _ _ v.drew
                have HB : Hid (Below w.heap.size w v.drew) := HB.out.drew
                generalize v.drew = D at HB ⊢
                refine Lw.take_to (i := 0) (some 100) (.string Z) rfl rfl (by kernel_rfl) (by kernel_rfl) (by kernel_rfl) (fun _ _ _ h => h) (Or.inl ⟨by rfl, fun w => by go_simp⟩) ?_
                simp only [Act.put, List.setIfInBounds_toArray, List.set_cons_zero, List.set_cons_succ]
                refine Lw.take_to (i := 1) (some 101) (.string Z) rfl rfl (by kernel_rfl) (by kernel_rfl) (by kernel_rfl) (fun _ _ _ h => h) (Or.inl ⟨by rfl, fun w => by go_simp⟩) ?_
                simp only [Act.put, List.setIfInBounds_toArray, List.set_cons_zero, List.set_cons_succ]
                refine Lw.take_to (i := 2) (some 102) (.string N) rfl rfl (by kernel_rfl) (by kernel_rfl) (by kernel_rfl) (fun _ _ _ h => h) (Or.inl ⟨by rfl, fun w => by have hz := hz0.out; have hx := hx0.out; go_simp⟩) ?_
                simp only [Act.put, List.setIfInBounds_toArray, List.set_cons_zero, List.set_cons_succ]
                refine Lw.meetA (fun (gs : Nat) a => ((a.put (some 103) (.slice (some ⟨gs, 0, none⟩) 65537 65537)).put (some 104) (.string KT))) #[true, true, true, true, true, false, false, false, false, false, false] 6 (fun (gs : Nat) W => Below w.heap.size w W) ?_ (fun key20 => ?_)
                · rintro g0 W hb
                  simp only [Act.put, List.setIfInBounds_toArray, List.set_cons_zero, List.set_cons_succ]
                  have HB := Lib.hid hb
                  clear hb
                  refine wpAny_ready (rs := [5]) (by kernel_rfl) (by simp) ?_
                  refine ready_call2 (some 105) rfl rfl rfl 9 _ _ rfl (fun _ _ => by go_simp) #[.string Z, .string N, .string ⟨#[]⟩, .string KT] (by kernel_rfl) ?_ AllReady.nil
                  refine (kS2.out _).mono ?_
                  rintro e v ⟨rfl, hb⟩
                  refine ⟨_, rfl, ?_⟩
                  have HB := Lib.hid (Lw.go_on HB.out hb)
                  clear hb
                  simp only [Act.put, List.setIfInBounds_toArray, List.set_cons_zero, List.set_cons_succ]
                  refine Lw.take_to (i := 6) (some 99) (.tuple #[.string ⟨#[]⟩, .int .i64 500]) rfl rfl (by kernel_rfl) (by kernel_rfl) (by kernel_rfl) (fun _ _ _ h => h) (Or.inl ⟨by rfl, fun w => by go_simp⟩) ?_
                  simp only [Act.put, List.setIfInBounds_toArray, List.set_cons_zero, List.set_cons_succ]
                  refine Lw.take_to (i := 7) (some 106) (.string ⟨#[]⟩) rfl rfl (by kernel_rfl) (by kernel_rfl) (by kernel_rfl) (fun _ _ _ h => h) (Or.inl ⟨by rfl, fun w => by go_simp⟩) ?_
                  simp only [Act.put, List.setIfInBounds_toArray, List.set_cons_zero, List.set_cons_succ]
                  refine Lw.take_to (i := 8) (some 107) (.int .i64 500) rfl rfl (by kernel_rfl) (by kernel_rfl) (by kernel_rfl) (fun _ _ _ h => h) (Or.inl ⟨by rfl, fun w => by go_simp⟩) ?_
                  simp only [Act.put, List.setIfInBounds_toArray, List.set_cons_zero, List.set_cons_succ]
                  refine Lw.take_to (i := 9) (some 23) (.string ⟨#[]⟩) rfl rfl (by kernel_rfl) (by kernel_rfl) (by kernel_rfl) (fun _ _ _ h => h) (Or.inl ⟨by rfl, fun w => by go_simp⟩) ?_
                  simp only [Act.put, List.setIfInBounds_toArray, List.set_cons_zero, List.set_cons_succ]
                  refine Lw.take_to (i := 10) (some 24) (.int .i64 500) rfl rfl (by kernel_rfl) (by kernel_rfl) (by kernel_rfl) (fun _ _ _ h => h) (Or.inl ⟨by rfl, fun w => by go_simp⟩) ?_
                  simp only [Act.put, List.setIfInBounds_toArray, List.set_cons_zero, List.set_cons_succ]
                  refine wpAny_done (by kernel_rfl) ?_ _
                  have hE1 := HE1.out
                  have hE2 := HE2.out
                  subst hE1
                  subst hE2
                  go_wp2_with (go_at_call 15; refine (Lw.num_same _ _).mono ?_; rintro e u ⟨rfl, rfl⟩)
                  go_ret
                  exact ⟨rfl, HB.out⟩
                simp only [Act.put, List.setIfInBounds_toArray, List.set_cons_zero, List.set_cons_succ] at key20
                have key2 := Lib.hid key20
                clear key20
                refine Lw.meetA (fun (gs : Nat) a => (a.put (some 103) (.slice (some ⟨gs, 0, none⟩) 65537 65537))) #[true, true, true, true, false, false, false, false, false, false, false] 7 (fun (gs : Nat) W => Below w.heap.size w W ∧ Lw.RowB W gs 65537 (fun _ => 0)) ?_ (fun key10 => ?_)
                · rintro g0 W ⟨hb, r0⟩
                  simp only [Act.put, List.setIfInBounds_toArray, List.set_cons_zero, List.set_cons_succ]
                  have cv0 := hKT.out W g0 r0
                  refine wpAny_ready (rs := [4]) (by kernel_rfl) (by simp) ?_
                  refine ready_one2 (some 104) rfl rfl rfl (.string KT) W (by go_simp) ?_ AllReady.nil
                  · simp only [Act.put, List.setIfInBounds_toArray, List.set_cons_zero, List.set_cons_succ]
                    exact key2.out g0 _ (hb)
                simp only [Act.put, List.setIfInBounds_toArray, List.set_cons_zero, List.set_cons_succ] at key10
                have key1 := Lib.hid key10
                clear key10
                refine wpAny_ready (rs := [3]) (by kernel_rfl) (by simp) ?_
                refine ready_one2 (some 103) rfl rfl rfl (.slice (some ⟨D.heap.size, 0, none⟩) 65537 65537) (D.alloc (.cells MT 5)) (by go_simp) ?_ AllReady.nil
                · simp only [Act.put, List.setIfInBounds_toArray, List.set_cons_zero, List.set_cons_succ]
                  exact key1.out D.heap.size _ (⟨HB.out.alloc HB.out.size _, Lw.rowB_new D MT 65537 HMT.out.1 HMT.out.2⟩)
              simp only [Act.put, List.setIfInBounds_toArray, List.set_cons_zero, List.set_cons_succ] at key20
              have key2 := Lib.hid key20
              clear key20
              refine Lw.meetA (fun (gs : Nat) a => (a.put (some 94) (.slice (some ⟨gs, 0, none⟩) 65537 65537))) #[true, true, true, true, false, false, false, false, false, false, false] 7 (fun (gs : Nat) W => Below w.heap.size w W ∧ Lw.RowB W gs 65537 (fun _ => 0)) ?_ (fun key10 => ?_)
              · rintro g0 W ⟨hb, r0⟩
                simp only [Act.put, List.setIfInBounds_toArray, List.set_cons_zero, List.set_cons_succ]
                have cv0 := hKT.out W g0 r0
                refine wpAny_ready (rs := [4]) (by kernel_rfl) (by simp) ?_
                refine ready_one2 (some 95) rfl rfl rfl (.string KT) W (by go_simp) ?_ AllReady.nil
                · simp only [Act.put, List.setIfInBounds_toArray, List.set_cons_zero, List.set_cons_succ]
                  exact key2.out g0 _ (hb)
              simp only [Act.put, List.setIfInBounds_toArray, List.set_cons_zero, List.set_cons_succ] at key10
              have key1 := Lib.hid key10
              clear key10
              refine wpAny_ready (rs := [3]) (by kernel_rfl) (by simp) ?_
              refine ready_one2 (some 94) rfl rfl rfl (.slice (some ⟨D.heap.size, 0, none⟩) 65537 65537) (D.alloc (.cells MT 5)) (by go_simp) ?_ AllReady.nil
              · simp only [Act.put, List.setIfInBounds_toArray, List.set_cons_zero, List.set_cons_succ]
                exact key1.out D.heap.size _ (⟨HB.out.alloc HB.out.size _, Lw.rowB_new D MT 65537 HMT.out.1 HMT.out.2⟩)
        simp only [Act.put, List.setIfInBounds_toArray, List.set_cons_zero, List.set_cons_succ] at key220
        have key22 := Lib.hid key220
        clear key220
        refine Lw.meetA (fun (gs : Nat × Nat) a => (((a.put (some 72) (.slice (some ⟨gs.1, 0, none⟩) s14 s14)).put (some 75) (.slice (some ⟨gs.2, 0, none⟩) b b)).put (some 76) (.string KB))) #[true, true, true, true, false, true, true, true, false, false, false, false, false, false] 7 (fun (gs : Nat × Nat) W => Below w.heap.size w W ∧ Lw.RowB W gs.1 s14 (fun _ => 0)) ?_ (fun key120 => ?_)
        · rintro ⟨g0, g1⟩ W ⟨hb, r0⟩
          simp only [Act.put, List.setIfInBounds_toArray, List.set_cons_zero, List.set_cons_succ]
          have cv0 := hKQ.out W g0 r0
          refine wpAny_ready (rs := [4]) (by kernel_rfl) (by simp) ?_
          refine ready_one2 (some 73) rfl rfl rfl (.string KQ) W (by go_simp) ?_ AllReady.nil
          · simp only [Act.put, List.setIfInBounds_toArray, List.set_cons_zero, List.set_cons_succ]
            exact key22.out (g0, g1) _ (hb)
        simp only [Act.put, List.setIfInBounds_toArray, List.set_cons_zero, List.set_cons_succ] at key120
        have key12 := Lib.hid key120
        clear key120
        refine Lw.meetA (fun (gs : Nat × Nat) a => (((a.put (some 72) (.slice (some ⟨gs.1, 0, none⟩) s14 s14)).put (some 73) (.string KQ)).put (some 75) (.slice (some ⟨gs.2, 0, none⟩) b b))) #[true, true, true, true, true, true, true, false, false, false, false, false, false, false] 7 (fun (gs : Nat × Nat) W => Below w.heap.size w W ∧ Lw.RowB W gs.2 b (fun _ => 0)) ?_ (fun key210 => ?_)
        · rintro ⟨g0, g1⟩ W ⟨hb, r1⟩
          simp only [Act.put, List.setIfInBounds_toArray, List.set_cons_zero, List.set_cons_succ]
          have cv1 := hKB.out W g1 r1
          refine wpAny_ready (rs := [7]) (by kernel_rfl) (by simp) ?_
          refine ready_one2 (some 76) rfl rfl rfl (.string KB) W (by go_simp) ?_ AllReady.nil
          · simp only [Act.put, List.setIfInBounds_toArray, List.set_cons_zero, List.set_cons_succ]
            exact key22.out (g0, g1) _ (hb)
        simp only [Act.put, List.setIfInBounds_toArray, List.set_cons_zero, List.set_cons_succ] at key210
        have key21 := Lib.hid key210
        clear key210
        refine Lw.meetA (fun (gs : Nat × Nat) a => ((a.put (some 75) (.slice (some ⟨gs.2, 0, none⟩) b b)).put (some 76) (.string KB))) #[true, true, true, false, false, true, true, true, false, false, false, false, false, false] 8 (fun (gs : Nat × Nat) W => Below w.heap.size w W) ?_ (fun key020 => ?_)
        · rintro ⟨g0, g1⟩ W hb
          simp only [Act.put, List.setIfInBounds_toArray, List.set_cons_zero, List.set_cons_succ]
          refine wpAny_ready (rs := [3]) (by kernel_rfl) (by simp) ?_
          refine ready_one2 (some 72) rfl rfl rfl (.slice (some ⟨W.heap.size, 0, none⟩) s14 s14) (W.alloc (.cells MQ 5)) (by go_simp) ?_ AllReady.nil
          · simp only [Act.put, List.setIfInBounds_toArray, List.set_cons_zero, List.set_cons_succ]
            exact key12.out (W.heap.size, g1) _ (⟨hb.alloc hb.size _, Lw.rowB_new W MQ s14 HMQ.out.1 HMQ.out.2⟩)
        simp only [Act.put, List.setIfInBounds_toArray, List.set_cons_zero, List.set_cons_succ] at key020
        have key02 := Lib.hid key020
        clear key020
        refine Lw.meetA (fun (gs : Nat × Nat) a => ((a.put (some 72) (.slice (some ⟨gs.1, 0, none⟩) s14 s14)).put (some 75) (.slice (some ⟨gs.2, 0, none⟩) b b))) #[true, true, true, true, false, true, true, false, false, false, false, false, false, false] 8 (fun (gs : Nat × Nat) W => Below w.heap.size w W ∧ Lw.RowB W gs.1 s14 (fun _ => 0) ∧ Lw.RowB W gs.2 b (fun _ => 0)) ?_ (fun key110 => ?_)
        · rintro ⟨g0, g1⟩ W ⟨hb, r0, r1⟩
          simp only [Act.put, List.setIfInBounds_toArray, List.set_cons_zero, List.set_cons_succ]
          have cv0 := hKQ.out W g0 r0
          have cv1 := hKB.out W g1 r1
          refine wpAny_ready (rs := [4, 7]) (by kernel_rfl) (by simp) ?_
          refine ready_one2 (some 73) rfl rfl rfl (.string KQ) W (by go_simp) ?_ (ready_one2 (some 76) rfl rfl rfl (.string KB) W (by go_simp) ?_ AllReady.nil)
          · simp only [Act.put, List.setIfInBounds_toArray, List.set_cons_zero, List.set_cons_succ]
            exact key21.out (g0, g1) _ (⟨hb, r1⟩)
          · simp only [Act.put, List.setIfInBounds_toArray, List.set_cons_zero, List.set_cons_succ]
            exact key12.out (g0, g1) _ (⟨hb, r0⟩)
        simp only [Act.put, List.setIfInBounds_toArray, List.set_cons_zero, List.set_cons_succ] at key110
        have key11 := Lib.hid key110
        clear key110
        refine Lw.meetA (fun (gs : Nat × Nat) a => ((a.put (some 72) (.slice (some ⟨gs.1, 0, none⟩) s14 s14)).put (some 73) (.string KQ))) #[true, true, true, true, true, true, false, false, false, false, false, false, false, false] 8 (fun (gs : Nat × Nat) W => Below w.heap.size w W) ?_ (fun key200 => ?_)
        · rintro ⟨g0, g1⟩ W hb
          simp only [Act.put, List.setIfInBounds_toArray, List.set_cons_zero, List.set_cons_succ]
          refine wpAny_ready (rs := [6]) (by kernel_rfl) (by simp) ?_
          refine ready_one2 (some 75) rfl rfl rfl (.slice (some ⟨W.heap.size, 0, none⟩) b b) (W.alloc (.cells MB 5)) (by go_simp) ?_ AllReady.nil
          · simp only [Act.put, List.setIfInBounds_toArray, List.set_cons_zero, List.set_cons_succ]
            exact key21.out (g0, W.heap.size) _ (⟨hb.alloc hb.size _, Lw.rowB_new W MB b HMB.out.1 HMB.out.2⟩)
        simp only [Act.put, List.setIfInBounds_toArray, List.set_cons_zero, List.set_cons_succ] at key200
        have key20 := Lib.hid key200
        clear key200
        refine Lw.meetA (fun (gs : Nat × Nat) a => (a.put (some 75) (.slice (some ⟨gs.2, 0, none⟩) b b))) #[true, true, true, false, false, true, true, false, false, false, false, false, false, false] 9 (fun (gs : Nat × Nat) W => Below w.heap.size w W ∧ Lw.RowB W gs.2 b (fun _ => 0)) ?_ (fun key010 => ?_)
        · rintro ⟨g0, g1⟩ W ⟨hb, r1⟩
          simp only [Act.put, List.setIfInBounds_toArray, List.set_cons_zero, List.set_cons_succ]
          have cv1 := hKB.out W g1 r1
          refine wpAny_ready (rs := [3, 7]) (by kernel_rfl) (by simp) ?_
          refine ready_one2 (some 72) rfl rfl rfl (.slice (some ⟨W.heap.size, 0, none⟩) s14 s14) (W.alloc (.cells MQ 5)) (by go_simp) ?_ (ready_one2 (some 76) rfl rfl rfl (.string KB) W (by go_simp) ?_ AllReady.nil)
          · simp only [Act.put, List.setIfInBounds_toArray, List.set_cons_zero, List.set_cons_succ]
            exact key11.out (W.heap.size, g1) _ (⟨hb.alloc hb.size _, Lw.rowB_new W MQ s14 HMQ.out.1 HMQ.out.2, World.rowIs.alloc r1 _⟩)
          · simp only [Act.put, List.setIfInBounds_toArray, List.set_cons_zero, List.set_cons_succ]
            exact key02.out (0, g1) _ (hb)
        simp only [Act.put, List.setIfInBounds_toArray, List.set_cons_zero, List.set_cons_succ] at key010
        have key01 := Lib.hid key010
        clear key010
        refine Lw.meetA (fun (gs : Nat × Nat) a => (a.put (some 72) (.slice (some ⟨gs.1, 0, none⟩) s14 s14))) #[true, true, true, true, false, true, false, false, false, false, false, false, false, false] 9 (fun (gs : Nat × Nat) W => Below w.heap.size w W ∧ Lw.RowB W gs.1 s14 (fun _ => 0)) ?_ (fun key100 => ?_)
        · rintro ⟨g0, g1⟩ W ⟨hb, r0⟩
          simp only [Act.put, List.setIfInBounds_toArray, List.set_cons_zero, List.set_cons_succ]
          have cv0 := hKQ.out W g0 r0
          refine wpAny_ready (rs := [4, 6]) (by kernel_rfl) (by simp) ?_
          refine ready_one2 (some 73) rfl rfl rfl (.string KQ) W (by go_simp) ?_ (ready_one2 (some 75) rfl rfl rfl (.slice (some ⟨W.heap.size, 0, none⟩) b b) (W.alloc (.cells MB 5)) (by go_simp) ?_ AllReady.nil)
          · simp only [Act.put, List.setIfInBounds_toArray, List.set_cons_zero, List.set_cons_succ]
            exact key20.out (g0, 0) _ (hb)
          · simp only [Act.put, List.setIfInBounds_toArray, List.set_cons_zero, List.set_cons_succ]
            exact key11.out (g0, W.heap.size) _ (⟨hb.alloc hb.size _, World.rowIs.alloc r0 _, Lw.rowB_new W MB b HMB.out.1 HMB.out.2⟩)
        simp only [Act.put, List.setIfInBounds_toArray, List.set_cons_zero, List.set_cons_succ] at key100
        have key10 := Lib.hid key100
        clear key100
        refine wpAny_ready (rs := [3, 6]) (by kernel_rfl) (by simp) ?_
        refine ready_one2 (some 72) rfl rfl rfl (.slice (some ⟨D.heap.size, 0, none⟩) s14 s14) (D.alloc (.cells MQ 5)) (by go_simp) ?_ (ready_one2 (some 75) rfl rfl rfl (.slice (some ⟨D.heap.size, 0, none⟩) b b) (D.alloc (.cells MB 5)) (by go_simp) ?_ AllReady.nil)
        · simp only [Act.put, List.setIfInBounds_toArray, List.set_cons_zero, List.set_cons_succ]
          exact key10.out (D.heap.size, 0) _ (⟨HB.out.alloc HB.out.size _, Lw.rowB_new D MQ s14 HMQ.out.1 HMQ.out.2⟩)
        · simp only [Act.put, List.setIfInBounds_toArray, List.set_cons_zero, List.set_cons_succ]
          exact key01.out (0, D.heap.size) _ (⟨HB.out.alloc HB.out.size _, Lw.rowB_new D MB b HMB.out.1 HMB.out.2⟩)
      simp only [Act.put, List.setIfInBounds_toArray, List.set_cons_zero, List.set_cons_succ] at key2220
      have key222 := Lib.hid key2220
      clear key2220
      refine Lw.meetA (fun (gs : Nat × Nat × Nat) a => (((((a.put (some 54) (.slice (some ⟨gs.1, 0, none⟩) x x)).put (some 57) (.slice (some ⟨gs.2.1, 0, none⟩) y y)).put (some 58) (.string KY)).put (some 61) (.slice (some ⟨gs.2.2, 0, none⟩) r r)).put (some 62) (.string KR))) #[true, true, false, true, true, true, true, true, true, true, false, false, false, false, false, false] 7 (fun (gs : Nat × Nat × Nat) W => Below w.heap.size w W ∧ Lw.RowB W gs.1 x (fun _ => 0)) ?_ (fun key1220 => ?_)
      · rintro ⟨g0, g1, g2⟩ W ⟨hb, r0⟩
        simp only [Act.put, List.setIfInBounds_toArray, List.set_cons_zero, List.set_cons_succ]
        have cv0 := hKX.out W g0 r0
        refine wpAny_ready (rs := [2]) (by kernel_rfl) (by simp) ?_
        refine ready_one2 (some 55) rfl rfl rfl (.string KX) W (by go_simp) ?_ AllReady.nil
        · simp only [Act.put, List.setIfInBounds_toArray, List.set_cons_zero, List.set_cons_succ]
          exact key222.out (g0, g1, g2) _ (hb)
      simp only [Act.put, List.setIfInBounds_toArray, List.set_cons_zero, List.set_cons_succ] at key1220
      have key122 := Lib.hid key1220
      clear key1220
      refine Lw.meetA (fun (gs : Nat × Nat × Nat) a => (((((a.put (some 54) (.slice (some ⟨gs.1, 0, none⟩) x x)).put (some 55) (.string KX)).put (some 57) (.slice (some ⟨gs.2.1, 0, none⟩) y y)).put (some 61) (.slice (some ⟨gs.2.2, 0, none⟩) r r)).put (some 62) (.string KR))) #[true, true, true, true, true, false, true, true, true, true, false, false, false, false, false, false] 7 (fun (gs : Nat × Nat × Nat) W => Below w.heap.size w W ∧ Lw.RowB W gs.2.1 y (fun _ => 0)) ?_ (fun key2120 => ?_)
      · rintro ⟨g0, g1, g2⟩ W ⟨hb, r1⟩
        simp only [Act.put, List.setIfInBounds_toArray, List.set_cons_zero, List.set_cons_succ]
        have cv1 := hKY.out W g1 r1
        refine wpAny_ready (rs := [5]) (by kernel_rfl) (by simp) ?_
        refine ready_one2 (some 58) rfl rfl rfl (.string KY) W (by go_simp) ?_ AllReady.nil
        · simp only [Act.put, List.setIfInBounds_toArray, List.set_cons_zero, List.set_cons_succ]
          exact key222.out (g0, g1, g2) _ (hb)
      simp only [Act.put, List.setIfInBounds_toArray, List.set_cons_zero, List.set_cons_succ] at key2120
      have key212 := Lib.hid key2120
      clear key2120
      refine Lw.meetA (fun (gs : Nat × Nat × Nat) a => (((((a.put (some 54) (.slice (some ⟨gs.1, 0, none⟩) x x)).put (some 55) (.string KX)).put (some 57) (.slice (some ⟨gs.2.1, 0, none⟩) y y)).put (some 58) (.string KY)).put (some 61) (.slice (some ⟨gs.2.2, 0, none⟩) r r))) #[true, true, true, true, true, true, true, true, true, false, false, false, false, false, false, false] 7 (fun (gs : Nat × Nat × Nat) W => Below w.heap.size w W ∧ Lw.RowB W gs.2.2 r (fun _ => 0)) ?_ (fun key2210 => ?_)
      · rintro ⟨g0, g1, g2⟩ W ⟨hb, r2⟩
        simp only [Act.put, List.setIfInBounds_toArray, List.set_cons_zero, List.set_cons_succ]
        have cv2 := hKR.out W g2 r2
        refine wpAny_ready (rs := [9]) (by kernel_rfl) (by simp) ?_
        refine ready_one2 (some 62) rfl rfl rfl (.string KR) W (by go_simp) ?_ AllReady.nil
        · simp only [Act.put, List.setIfInBounds_toArray, List.set_cons_zero, List.set_cons_succ]
          exact key222.out (g0, g1, g2) _ (hb)
      simp only [Act.put, List.setIfInBounds_toArray, List.set_cons_zero, List.set_cons_succ] at key2210
      have key221 := Lib.hid key2210
      clear key2210
      refine Lw.meetA (fun (gs : Nat × Nat × Nat) a => ((((a.put (some 57) (.slice (some ⟨gs.2.1, 0, none⟩) y y)).put (some 58) (.string KY)).put (some 61) (.slice (some ⟨gs.2.2, 0, none⟩) r r)).put (some 62) (.string KR))) #[true, false, false, true, true, true, true, true, true, true, false, false, false, false, false, false] 8 (fun (gs : Nat × Nat × Nat) W => Below w.heap.size w W) ?_ (fun key0220 => ?_)
      · rintro ⟨g0, g1, g2⟩ W hb
        simp only [Act.put, List.setIfInBounds_toArray, List.set_cons_zero, List.set_cons_succ]
        refine wpAny_ready (rs := [1]) (by kernel_rfl) (by simp) ?_
        refine ready_one2 (some 54) rfl rfl rfl (.slice (some ⟨W.heap.size, 0, none⟩) x x) (W.alloc (.cells MX 5)) (by go_simp) ?_ AllReady.nil
        · simp only [Act.put, List.setIfInBounds_toArray, List.set_cons_zero, List.set_cons_succ]
          exact key122.out (W.heap.size, g1, g2) _ (⟨hb.alloc hb.size _, Lw.rowB_new W MX x HMX.out.1 HMX.out.2⟩)
      simp only [Act.put, List.setIfInBounds_toArray, List.set_cons_zero, List.set_cons_succ] at key0220
      have key022 := Lib.hid key0220
      clear key0220
      refine Lw.meetA (fun (gs : Nat × Nat × Nat) a => ((((a.put (some 54) (.slice (some ⟨gs.1, 0, none⟩) x x)).put (some 57) (.slice (some ⟨gs.2.1, 0, none⟩) y y)).put (some 61) (.slice (some ⟨gs.2.2, 0, none⟩) r r)).put (some 62) (.string KR))) #[true, true, false, true, true, false, true, true, true, true, false, false, false, false, false, false] 8 (fun (gs : Nat × Nat × Nat) W => Below w.heap.size w W ∧ Lw.RowB W gs.1 x (fun _ => 0) ∧ Lw.RowB W gs.2.1 y (fun _ => 0)) ?_ (fun key1120 => ?_)
      · rintro ⟨g0, g1, g2⟩ W ⟨hb, r0, r1⟩
        simp only [Act.put, List.setIfInBounds_toArray, List.set_cons_zero, List.set_cons_succ]
        have cv0 := hKX.out W g0 r0
        have cv1 := hKY.out W g1 r1
        refine wpAny_ready (rs := [2, 5]) (by kernel_rfl) (by simp) ?_
        refine ready_one2 (some 55) rfl rfl rfl (.string KX) W (by go_simp) ?_ (ready_one2 (some 58) rfl rfl rfl (.string KY) W (by go_simp) ?_ AllReady.nil)
        · simp only [Act.put, List.setIfInBounds_toArray, List.set_cons_zero, List.set_cons_succ]
          exact key212.out (g0, g1, g2) _ (⟨hb, r1⟩)
        · simp only [Act.put, List.setIfInBounds_toArray, List.set_cons_zero, List.set_cons_succ]
          exact key122.out (g0, g1, g2) _ (⟨hb, r0⟩)
      simp only [Act.put, List.setIfInBounds_toArray, List.set_cons_zero, List.set_cons_succ] at key1120
      have key112 := Lib.hid key1120
      clear key1120
      refine Lw.meetA (fun (gs : Nat × Nat × Nat) a => ((((a.put (some 54) (.slice (some ⟨gs.1, 0, none⟩) x x)).put (some 57) (.slice (some ⟨gs.2.1, 0, none⟩) y y)).put (some 58) (.string KY)).put (some 61) (.slice (some ⟨gs.2.2, 0, none⟩) r r))) #[true, true, false, true, true, true, true, true, true, false, false, false, false, false, false, false] 8 (fun (gs : Nat × Nat × Nat) W => Below w.heap.size w W ∧ Lw.RowB W gs.1 x (fun _ => 0) ∧ Lw.RowB W gs.2.2 r (fun _ => 0)) ?_ (fun key1210 => ?_)
      · rintro ⟨g0, g1, g2⟩ W ⟨hb, r0, r2⟩
        simp only [Act.put, List.setIfInBounds_toArray, List.set_cons_zero, List.set_cons_succ]
        have cv0 := hKX.out W g0 r0
        have cv2 := hKR.out W g2 r2
        refine wpAny_ready (rs := [2, 9]) (by kernel_rfl) (by simp) ?_
        refine ready_one2 (some 55) rfl rfl rfl (.string KX) W (by go_simp) ?_ (ready_one2 (some 62) rfl rfl rfl (.string KR) W (by go_simp) ?_ AllReady.nil)
        · simp only [Act.put, List.setIfInBounds_toArray, List.set_cons_zero, List.set_cons_succ]
          exact key221.out (g0, g1, g2) _ (⟨hb, r2⟩)
        · simp only [Act.put, List.setIfInBounds_toArray, List.set_cons_zero, List.set_cons_succ]
          exact key122.out (g0, g1, g2) _ (⟨hb, r0⟩)
      simp only [Act.put, List.setIfInBounds_toArray, List.set_cons_zero, List.set_cons_succ] at key1210
      have key121 := Lib.hid key1210
      clear key1210
      refine Lw.meetA (fun (gs : Nat × Nat × Nat) a => ((((a.put (some 54) (.slice (some ⟨gs.1, 0, none⟩) x x)).put (some 55) (.string KX)).put (some 61) (.slice (some ⟨gs.2.2, 0, none⟩) r r)).put (some 62) (.string KR))) #[true, true, true, true, false, false, true, true, true, true, false, false, false, false, false, false] 8 (fun (gs : Nat × Nat × Nat) W => Below w.heap.size w W) ?_ (fun key2020 => ?_)
      · rintro ⟨g0, g1, g2⟩ W hb
        simp only [Act.put, List.setIfInBounds_toArray, List.set_cons_zero, List.set_cons_succ]
        refine wpAny_ready (rs := [4]) (by kernel_rfl) (by simp) ?_
        refine ready_one2 (some 57) rfl rfl rfl (.slice (some ⟨W.heap.size, 0, none⟩) y y) (W.alloc (.cells MY 5)) (by go_simp) ?_ AllReady.nil
        · simp only [Act.put, List.setIfInBounds_toArray, List.set_cons_zero, List.set_cons_succ]
          exact key212.out (g0, W.heap.size, g2) _ (⟨hb.alloc hb.size _, Lw.rowB_new W MY y HMY.out.1 HMY.out.2⟩)
      simp only [Act.put, List.setIfInBounds_toArray, List.set_cons_zero, List.set_cons_succ] at key2020
      have key202 := Lib.hid key2020
      clear key2020
      refine Lw.meetA (fun (gs : Nat × Nat × Nat) a => ((((a.put (some 54) (.slice (some ⟨gs.1, 0, none⟩) x x)).put (some 55) (.string KX)).put (some 57) (.slice (some ⟨gs.2.1, 0, none⟩) y y)).put (some 61) (.slice (some ⟨gs.2.2, 0, none⟩) r r))) #[true, true, true, true, true, false, true, true, true, false, false, false, false, false, false, false] 8 (fun (gs : Nat × Nat × Nat) W => Below w.heap.size w W ∧ Lw.RowB W gs.2.1 y (fun _ => 0) ∧ Lw.RowB W gs.2.2 r (fun _ => 0)) ?_ (fun key2110 => ?_)
      · rintro ⟨g0, g1, g2⟩ W ⟨hb, r1, r2⟩
        simp only [Act.put, List.setIfInBounds_toArray, List.set_cons_zero, List.set_cons_succ]
        have cv1 := hKY.out W g1 r1
        have cv2 := hKR.out W g2 r2
        refine wpAny_ready (rs := [5, 9]) (by kernel_rfl) (by simp) ?_
        refine ready_one2 (some 58) rfl rfl rfl (.string KY) W (by go_simp) ?_ (ready_one2 (some 62) rfl rfl rfl (.string KR) W (by go_simp) ?_ AllReady.nil)
        · simp only [Act.put, List.setIfInBounds_toArray, List.set_cons_zero, List.set_cons_succ]
          exact key221.out (g0, g1, g2) _ (⟨hb, r2⟩)
        · simp only [Act.put, List.setIfInBounds_toArray, List.set_cons_zero, List.set_cons_succ]
          exact key212.out (g0, g1, g2) _ (⟨hb, r1⟩)
      simp only [Act.put, List.setIfInBounds_toArray, List.set_cons_zero, List.set_cons_succ] at key2110
      have key211 := Lib.hid key2110
      clear key2110
      refine Lw.meetA (fun (gs : Nat × Nat × Nat) a => ((((a.put (some 54) (.slice (some ⟨gs.1, 0, none⟩) x x)).put (some 55) (.string KX)).put (some 57) (.slice (some ⟨gs.2.1, 0, none⟩) y y)).put (some 58) (.string KY))) #[true, true, true, true, true, true, true, true, false, false, false, false, false, false, false, false] 8 (fun (gs : Nat × Nat × Nat) W => Below w.heap.size w W) ?_ (fun key2200 => ?_)
      · rintro ⟨g0, g1, g2⟩ W hb
        simp only [Act.put, List.setIfInBounds_toArray, List.set_cons_zero, List.set_cons_succ]
        refine wpAny_ready (rs := [8]) (by kernel_rfl) (by simp) ?_
        refine ready_one2 (some 61) rfl rfl rfl (.slice (some ⟨W.heap.size, 0, none⟩) r r) (W.alloc (.cells MR 5)) (by go_simp) ?_ AllReady.nil
        · simp only [Act.put, List.setIfInBounds_toArray, List.set_cons_zero, List.set_cons_succ]
          exact key221.out (g0, g1, W.heap.size) _ (⟨hb.alloc hb.size _, Lw.rowB_new W MR r HMR.out.1 HMR.out.2⟩)
      simp only [Act.put, List.setIfInBounds_toArray, List.set_cons_zero, List.set_cons_succ] at key2200
      have key220 := Lib.hid key2200
      clear key2200
      refine Lw.meetA (fun (gs : Nat × Nat × Nat) a => (((a.put (some 57) (.slice (some ⟨gs.2.1, 0, none⟩) y y)).put (some 61) (.slice (some ⟨gs.2.2, 0, none⟩) r r)).put (some 62) (.string KR))) #[true, false, false, true, true, false, true, true, true, true, false, false, false, false, false, false] 9 (fun (gs : Nat × Nat × Nat) W => Below w.heap.size w W ∧ Lw.RowB W gs.2.1 y (fun _ => 0)) ?_ (fun key0120 => ?_)
      · rintro ⟨g0, g1, g2⟩ W ⟨hb, r1⟩
        simp only [Act.put, List.setIfInBounds_toArray, List.set_cons_zero, List.set_cons_succ]
        have cv1 := hKY.out W g1 r1
        refine wpAny_ready (rs := [1, 5]) (by kernel_rfl) (by simp) ?_
        refine ready_one2 (some 54) rfl rfl rfl (.slice (some ⟨W.heap.size, 0, none⟩) x x) (W.alloc (.cells MX 5)) (by go_simp) ?_ (ready_one2 (some 58) rfl rfl rfl (.string KY) W (by go_simp) ?_ AllReady.nil)
        · simp only [Act.put, List.setIfInBounds_toArray, List.set_cons_zero, List.set_cons_succ]
          exact key112.out (W.heap.size, g1, g2) _ (⟨hb.alloc hb.size _, Lw.rowB_new W MX x HMX.out.1 HMX.out.2, World.rowIs.alloc r1 _⟩)
        · simp only [Act.put, List.setIfInBounds_toArray, List.set_cons_zero, List.set_cons_succ]
          exact key022.out (0, g1, g2) _ (hb)
      simp only [Act.put, List.setIfInBounds_toArray, List.set_cons_zero, List.set_cons_succ] at key0120
      have key012 := Lib.hid key0120
      clear key0120
      refine Lw.meetA (fun (gs : Nat × Nat × Nat) a => (((a.put (some 57) (.slice (some ⟨gs.2.1, 0, none⟩) y y)).put (some 58) (.string KY)).put (some 61) (.slice (some ⟨gs.2.2, 0, none⟩) r r))) #[true, false, false, true, true, true, true, true, true, false, false, false, false, false, false, false] 9 (fun (gs : Nat × Nat × Nat) W => Below w.heap.size w W ∧ Lw.RowB W gs.2.2 r (fun _ => 0)) ?_ (fun key0210 => ?_)
      · rintro ⟨g0, g1, g2⟩ W ⟨hb, r2⟩
        simp only [Act.put, List.setIfInBounds_toArray, List.set_cons_zero, List.set_cons_succ]
        have cv2 := hKR.out W g2 r2
        refine wpAny_ready (rs := [1, 9]) (by kernel_rfl) (by simp) ?_
        refine ready_one2 (some 54) rfl rfl rfl (.slice (some ⟨W.heap.size, 0, none⟩) x x) (W.alloc (.cells MX 5)) (by go_simp) ?_ (ready_one2 (some 62) rfl rfl rfl (.string KR) W (by go_simp) ?_ AllReady.nil)
        · simp only [Act.put, List.setIfInBounds_toArray, List.set_cons_zero, List.set_cons_succ]
          exact key121.out (W.heap.size, g1, g2) _ (⟨hb.alloc hb.size _, Lw.rowB_new W MX x HMX.out.1 HMX.out.2, World.rowIs.alloc r2 _⟩)
        · simp only [Act.put, List.setIfInBounds_toArray, List.set_cons_zero, List.set_cons_succ]
          exact key022.out (0, g1, g2) _ (hb)
      simp only [Act.put, List.setIfInBounds_toArray, List.set_cons_zero, List.set_cons_succ] at key0210
      have key021 := Lib.hid key0210
      clear key0210
      refine Lw.meetA (fun (gs : Nat × Nat × Nat) a => (((a.put (some 54) (.slice (some ⟨gs.1, 0, none⟩) x x)).put (some 61) (.slice (some ⟨gs.2.2, 0, none⟩) r r)).put (some 62) (.string KR))) #[true, true, false, true, false, false, true, true, true, true, false, false, false, false, false, false] 9 (fun (gs : Nat × Nat × Nat) W => Below w.heap.size w W ∧ Lw.RowB W gs.1 x (fun _ => 0)) ?_ (fun key1020 => ?_)
      · rintro ⟨g0, g1, g2⟩ W ⟨hb, r0⟩
        simp only [Act.put, List.setIfInBounds_toArray, List.set_cons_zero, List.set_cons_succ]
        have cv0 := hKX.out W g0 r0
        refine wpAny_ready (rs := [2, 4]) (by kernel_rfl) (by simp) ?_
        refine ready_one2 (some 55) rfl rfl rfl (.string KX) W (by go_simp) ?_ (ready_one2 (some 57) rfl rfl rfl (.slice (some ⟨W.heap.size, 0, none⟩) y y) (W.alloc (.cells MY 5)) (by go_simp) ?_ AllReady.nil)
        · simp only [Act.put, List.setIfInBounds_toArray, List.set_cons_zero, List.set_cons_succ]
          exact key202.out (g0, 0, g2) _ (hb)
        · simp only [Act.put, List.setIfInBounds_toArray, List.set_cons_zero, List.set_cons_succ]
          exact key112.out (g0, W.heap.size, g2) _ (⟨hb.alloc hb.size _, World.rowIs.alloc r0 _, Lw.rowB_new W MY y HMY.out.1 HMY.out.2⟩)
      simp only [Act.put, List.setIfInBounds_toArray, List.set_cons_zero, List.set_cons_succ] at key1020
      have key102 := Lib.hid key1020
      clear key1020
      refine Lw.meetA (fun (gs : Nat × Nat × Nat) a => (((a.put (some 54) (.slice (some ⟨gs.1, 0, none⟩) x x)).put (some 57) (.slice (some ⟨gs.2.1, 0, none⟩) y y)).put (some 61) (.slice (some ⟨gs.2.2, 0, none⟩) r r))) #[true, true, false, true, true, false, true, true, true, false, false, false, false, false, false, false] 9 (fun (gs : Nat × Nat × Nat) W => Below w.heap.size w W ∧ Lw.RowB W gs.1 x (fun _ => 0) ∧ Lw.RowB W gs.2.1 y (fun _ => 0) ∧ Lw.RowB W gs.2.2 r (fun _ => 0)) ?_ (fun key1110 => ?_)
      · rintro ⟨g0, g1, g2⟩ W ⟨hb, r0, r1, r2⟩
        simp only [Act.put, List.setIfInBounds_toArray, List.set_cons_zero, List.set_cons_succ]
        have cv0 := hKX.out W g0 r0
        have cv1 := hKY.out W g1 r1
        have cv2 := hKR.out W g2 r2
        refine wpAny_ready (rs := [2, 5, 9]) (by kernel_rfl) (by simp) ?_
        refine ready_one2 (some 55) rfl rfl rfl (.string KX) W (by go_simp) ?_ (ready_one2 (some 58) rfl rfl rfl (.string KY) W (by go_simp) ?_ (ready_one2 (some 62) rfl rfl rfl (.string KR) W (by go_simp) ?_ AllReady.nil))
        · simp only [Act.put, List.setIfInBounds_toArray, List.set_cons_zero, List.set_cons_succ]
          exact key211.out (g0, g1, g2) _ (⟨hb, r1, r2⟩)
        · simp only [Act.put, List.setIfInBounds_toArray, List.set_cons_zero, List.set_cons_succ]
          exact key121.out (g0, g1, g2) _ (⟨hb, r0, r2⟩)
        · simp only [Act.put, List.setIfInBounds_toArray, List.set_cons_zero, List.set_cons_succ]
          exact key112.out (g0, g1, g2) _ (⟨hb, r0, r1⟩)
      simp only [Act.put, List.setIfInBounds_toArray, List.set_cons_zero, List.set_cons_succ] at key1110
      have key111 := Lib.hid key1110
      clear key1110
      refine Lw.meetA (fun (gs : Nat × Nat × Nat) a => (((a.put (some 54) (.slice (some ⟨gs.1, 0, none⟩) x x)).put (some 57) (.slice (some ⟨gs.2.1, 0, none⟩) y y)).put (some 58) (.string KY))) #[true, true, false, true, true, true, true, true, false, false, false, false, false, false, false, false] 9 (fun (gs : Nat × Nat × Nat) W => Below w.heap.size w W ∧ Lw.RowB W gs.1 x (fun _ => 0)) ?_ (fun key1200 => ?_)
      · rintro ⟨g0, g1, g2⟩ W ⟨hb, r0⟩
        simp only [Act.put, List.setIfInBounds_toArray, List.set_cons_zero, List.set_cons_succ]
        have cv0 := hKX.out W g0 r0
        refine wpAny_ready (rs := [2, 8]) (by kernel_rfl) (by simp) ?_
        refine ready_one2 (some 55) rfl rfl rfl (.string KX) W (by go_simp) ?_ (ready_one2 (some 61) rfl rfl rfl (.slice (some ⟨W.heap.size, 0, none⟩) r r) (W.alloc (.cells MR 5)) (by go_simp) ?_ AllReady.nil)
        · simp only [Act.put, List.setIfInBounds_toArray, List.set_cons_zero, List.set_cons_succ]
          exact key220.out (g0, g1, 0) _ (hb)
        · simp only [Act.put, List.setIfInBounds_toArray, List.set_cons_zero, List.set_cons_succ]
          exact key121.out (g0, g1, W.heap.size) _ (⟨hb.alloc hb.size _, World.rowIs.alloc r0 _, Lw.rowB_new W MR r HMR.out.1 HMR.out.2⟩)
      simp only [Act.put, List.setIfInBounds_toArray, List.set_cons_zero, List.set_cons_succ] at key1200
      have key120 := Lib.hid key1200
      clear key1200
      refine Lw.meetA (fun (gs : Nat × Nat × Nat) a => (((a.put (some 54) (.slice (some ⟨gs.1, 0, none⟩) x x)).put (some 55) (.string KX)).put (some 61) (.slice (some ⟨gs.2.2, 0, none⟩) r r))) #[true, true, true, true, false, false, true, true, true, false, false, false, false, false, false, false] 9 (fun (gs : Nat × Nat × Nat) W => Below w.heap.size w W ∧ Lw.RowB W gs.2.2 r (fun _ => 0)) ?_ (fun key2010 => ?_)
      · rintro ⟨g0, g1, g2⟩ W ⟨hb, r2⟩
        simp only [Act.put, List.setIfInBounds_toArray, List.set_cons_zero, List.set_cons_succ]
        have cv2 := hKR.out W g2 r2
        refine wpAny_ready (rs := [4, 9]) (by kernel_rfl) (by simp) ?_
        refine ready_one2 (some 57) rfl rfl rfl (.slice (some ⟨W.heap.size, 0, none⟩) y y) (W.alloc (.cells MY 5)) (by go_simp) ?_ (ready_one2 (some 62) rfl rfl rfl (.string KR) W (by go_simp) ?_ AllReady.nil)
        · simp only [Act.put, List.setIfInBounds_toArray, List.set_cons_zero, List.set_cons_succ]
          exact key211.out (g0, W.heap.size, g2) _ (⟨hb.alloc hb.size _, Lw.rowB_new W MY y HMY.out.1 HMY.out.2, World.rowIs.alloc r2 _⟩)
        · simp only [Act.put, List.setIfInBounds_toArray, List.set_cons_zero, List.set_cons_succ]
          exact key202.out (g0, 0, g2) _ (hb)
      simp only [Act.put, List.setIfInBounds_toArray, List.set_cons_zero, List.set_cons_succ] at key2010
      have key201 := Lib.hid key2010
      clear key2010
      refine Lw.meetA (fun (gs : Nat × Nat × Nat) a => (((a.put (some 54) (.slice (some ⟨gs.1, 0, none⟩) x x)).put (some 55) (.string KX)).put (some 57) (.slice (some ⟨gs.2.1, 0, none⟩) y y))) #[true, true, true, true, true, false, true, true, false, false, false, false, false, false, false, false] 9 (fun (gs : Nat × Nat × Nat) W => Below w.heap.size w W ∧ Lw.RowB W gs.2.1 y (fun _ => 0)) ?_ (fun key2100 => ?_)
      · rintro ⟨g0, g1, g2⟩ W ⟨hb, r1⟩
        simp only [Act.put, List.setIfInBounds_toArray, List.set_cons_zero, List.set_cons_succ]
        have cv1 := hKY.out W g1 r1
        refine wpAny_ready (rs := [5, 8]) (by kernel_rfl) (by simp) ?_
        refine ready_one2 (some 58) rfl rfl rfl (.string KY) W (by go_simp) ?_ (ready_one2 (some 61) rfl rfl rfl (.slice (some ⟨W.heap.size, 0, none⟩) r r) (W.alloc (.cells MR 5)) (by go_simp) ?_ AllReady.nil)
        · simp only [Act.put, List.setIfInBounds_toArray, List.set_cons_zero, List.set_cons_succ]
          exact key220.out (g0, g1, 0) _ (hb)
        · simp only [Act.put, List.setIfInBounds_toArray, List.set_cons_zero, List.set_cons_succ]
          exact key211.out (g0, g1, W.heap.size) _ (⟨hb.alloc hb.size _, World.rowIs.alloc r1 _, Lw.rowB_new W MR r HMR.out.1 HMR.out.2⟩)
      simp only [Act.put, List.setIfInBounds_toArray, List.set_cons_zero, List.set_cons_succ] at key2100
      have key210 := Lib.hid key2100
      clear key2100
      refine Lw.meetA (fun (gs : Nat × Nat × Nat) a => ((a.put (some 61) (.slice (some ⟨gs.2.2, 0, none⟩) r r)).put (some 62) (.string KR))) #[true, false, false, true, false, false, true, true, true, true, false, false, false, false, false, false] 10 (fun (gs : Nat × Nat × Nat) W => Below w.heap.size w W) ?_ (fun key0020 => ?_)
      · rintro ⟨g0, g1, g2⟩ W hb
        simp only [Act.put, List.setIfInBounds_toArray, List.set_cons_zero, List.set_cons_succ]
        refine wpAny_ready (rs := [1, 4]) (by kernel_rfl) (by simp) ?_
        refine ready_one2 (some 54) rfl rfl rfl (.slice (some ⟨W.heap.size, 0, none⟩) x x) (W.alloc (.cells MX 5)) (by go_simp) ?_ (ready_one2 (some 57) rfl rfl rfl (.slice (some ⟨W.heap.size, 0, none⟩) y y) (W.alloc (.cells MY 5)) (by go_simp) ?_ AllReady.nil)
        · simp only [Act.put, List.setIfInBounds_toArray, List.set_cons_zero, List.set_cons_succ]
          exact key102.out (W.heap.size, 0, g2) _ (⟨hb.alloc hb.size _, Lw.rowB_new W MX x HMX.out.1 HMX.out.2⟩)
        · simp only [Act.put, List.setIfInBounds_toArray, List.set_cons_zero, List.set_cons_succ]
          exact key012.out (0, W.heap.size, g2) _ (⟨hb.alloc hb.size _, Lw.rowB_new W MY y HMY.out.1 HMY.out.2⟩)
      simp only [Act.put, List.setIfInBounds_toArray, List.set_cons_zero, List.set_cons_succ] at key0020
      have key002 := Lib.hid key0020
      clear key0020
      refine Lw.meetA (fun (gs : Nat × Nat × Nat) a => ((a.put (some 57) (.slice (some ⟨gs.2.1, 0, none⟩) y y)).put (some 61) (.slice (some ⟨gs.2.2, 0, none⟩) r r))) #[true, false, false, true, true, false, true, true, true, false, false, false, false, false, false, false] 10 (fun (gs : Nat × Nat × Nat) W => Below w.heap.size w W ∧ Lw.RowB W gs.2.1 y (fun _ => 0) ∧ Lw.RowB W gs.2.2 r (fun _ => 0)) ?_ (fun key0110 => ?_)
      · rintro ⟨g0, g1, g2⟩ W ⟨hb, r1, r2⟩
        simp only [Act.put, List.setIfInBounds_toArray, List.set_cons_zero, List.set_cons_succ]
        have cv1 := hKY.out W g1 r1
        have cv2 := hKR.out W g2 r2
        refine wpAny_ready (rs := [1, 5, 9]) (by kernel_rfl) (by simp) ?_
        refine ready_one2 (some 54) rfl rfl rfl (.slice (some ⟨W.heap.size, 0, none⟩) x x) (W.alloc (.cells MX 5)) (by go_simp) ?_ (ready_one2 (some 58) rfl rfl rfl (.string KY) W (by go_simp) ?_ (ready_one2 (some 62) rfl rfl rfl (.string KR) W (by go_simp) ?_ AllReady.nil))
        · simp only [Act.put, List.setIfInBounds_toArray, List.set_cons_zero, List.set_cons_succ]
          exact key111.out (W.heap.size, g1, g2) _ (⟨hb.alloc hb.size _, Lw.rowB_new W MX x HMX.out.1 HMX.out.2, World.rowIs.alloc r1 _, World.rowIs.alloc r2 _⟩)
        · simp only [Act.put, List.setIfInBounds_toArray, List.set_cons_zero, List.set_cons_succ]
          exact key021.out (0, g1, g2) _ (⟨hb, r2⟩)
        · simp only [Act.put, List.setIfInBounds_toArray, List.set_cons_zero, List.set_cons_succ]
          exact key012.out (0, g1, g2) _ (⟨hb, r1⟩)
      simp only [Act.put, List.setIfInBounds_toArray, List.set_cons_zero, List.set_cons_succ] at key0110
      have key011 := Lib.hid key0110
      clear key0110
      refine Lw.meetA (fun (gs : Nat × Nat × Nat) a => ((a.put (some 57) (.slice (some ⟨gs.2.1, 0, none⟩) y y)).put (some 58) (.string KY))) #[true, false, false, true, true, true, true, true, false, false, false, false, false, false, false, false] 10 (fun (gs : Nat × Nat × Nat) W => Below w.heap.size w W) ?_ (fun key0200 => ?_)
      · rintro ⟨g0, g1, g2⟩ W hb
        simp only [Act.put, List.setIfInBounds_toArray, List.set_cons_zero, List.set_cons_succ]
        refine wpAny_ready (rs := [1, 8]) (by kernel_rfl) (by simp) ?_
        refine ready_one2 (some 54) rfl rfl rfl (.slice (some ⟨W.heap.size, 0, none⟩) x x) (W.alloc (.cells MX 5)) (by go_simp) ?_ (ready_one2 (some 61) rfl rfl rfl (.slice (some ⟨W.heap.size, 0, none⟩) r r) (W.alloc (.cells MR 5)) (by go_simp) ?_ AllReady.nil)
        · simp only [Act.put, List.setIfInBounds_toArray, List.set_cons_zero, List.set_cons_succ]
          exact key120.out (W.heap.size, g1, 0) _ (⟨hb.alloc hb.size _, Lw.rowB_new W MX x HMX.out.1 HMX.out.2⟩)
        · simp only [Act.put, List.setIfInBounds_toArray, List.set_cons_zero, List.set_cons_succ]
          exact key021.out (0, g1, W.heap.size) _ (⟨hb.alloc hb.size _, Lw.rowB_new W MR r HMR.out.1 HMR.out.2⟩)
      simp only [Act.put, List.setIfInBounds_toArray, List.set_cons_zero, List.set_cons_succ] at key0200
      have key020 := Lib.hid key0200
      clear key0200
      refine Lw.meetA (fun (gs : Nat × Nat × Nat) a => ((a.put (some 54) (.slice (some ⟨gs.1, 0, none⟩) x x)).put (some 61) (.slice (some ⟨gs.2.2, 0, none⟩) r r))) #[true, true, false, true, false, false, true, true, true, false, false, false, false, false, false, false] 10 (fun (gs : Nat × Nat × Nat) W => Below w.heap.size w W ∧ Lw.RowB W gs.1 x (fun _ => 0) ∧ Lw.RowB W gs.2.2 r (fun _ => 0)) ?_ (fun key1010 => ?_)
      · rintro ⟨g0, g1, g2⟩ W ⟨hb, r0, r2⟩
        simp only [Act.put, List.setIfInBounds_toArray, List.set_cons_zero, List.set_cons_succ]
        have cv0 := hKX.out W g0 r0
        have cv2 := hKR.out W g2 r2
        refine wpAny_ready (rs := [2, 4, 9]) (by kernel_rfl) (by simp) ?_
        refine ready_one2 (some 55) rfl rfl rfl (.string KX) W (by go_simp) ?_ (ready_one2 (some 57) rfl rfl rfl (.slice (some ⟨W.heap.size, 0, none⟩) y y) (W.alloc (.cells MY 5)) (by go_simp) ?_ (ready_one2 (some 62) rfl rfl rfl (.string KR) W (by go_simp) ?_ AllReady.nil))
        · simp only [Act.put, List.setIfInBounds_toArray, List.set_cons_zero, List.set_cons_succ]
          exact key201.out (g0, 0, g2) _ (⟨hb, r2⟩)
        · simp only [Act.put, List.setIfInBounds_toArray, List.set_cons_zero, List.set_cons_succ]
          exact key111.out (g0, W.heap.size, g2) _ (⟨hb.alloc hb.size _, World.rowIs.alloc r0 _, Lw.rowB_new W MY y HMY.out.1 HMY.out.2, World.rowIs.alloc r2 _⟩)
        · simp only [Act.put, List.setIfInBounds_toArray, List.set_cons_zero, List.set_cons_succ]
          exact key102.out (g0, 0, g2) _ (⟨hb, r0⟩)
      simp only [Act.put, List.setIfInBounds_toArray, List.set_cons_zero, List.set_cons_succ] at key1010
      have key101 := Lib.hid key1010
      clear key1010
      refine Lw.meetA (fun (gs : Nat × Nat × Nat) a => ((a.put (some 54) (.slice (some ⟨gs.1, 0, none⟩) x x)).put (some 57) (.slice (some ⟨gs.2.1, 0, none⟩) y y))) #[true, true, false, true, true, false, true, true, false, false, false, false, false, false, false, false] 10 (fun (gs : Nat × Nat × Nat) W => Below w.heap.size w W ∧ Lw.RowB W gs.1 x (fun _ => 0) ∧ Lw.RowB W gs.2.1 y (fun _ => 0)) ?_ (fun key1100 => ?_)
      · rintro ⟨g0, g1, g2⟩ W ⟨hb, r0, r1⟩
        simp only [Act.put, List.setIfInBounds_toArray, List.set_cons_zero, List.set_cons_succ]
        have cv0 := hKX.out W g0 r0
        have cv1 := hKY.out W g1 r1
        refine wpAny_ready (rs := [2, 5, 8]) (by kernel_rfl) (by simp) ?_
        refine ready_one2 (some 55) rfl rfl rfl (.string KX) W (by go_simp) ?_ (ready_one2 (some 58) rfl rfl rfl (.string KY) W (by go_simp) ?_ (ready_one2 (some 61) rfl rfl rfl (.slice (some ⟨W.heap.size, 0, none⟩) r r) (W.alloc (.cells MR 5)) (by go_simp) ?_ AllReady.nil))
        · simp only [Act.put, List.setIfInBounds_toArray, List.set_cons_zero, List.set_cons_succ]
          exact key210.out (g0, g1, 0) _ (⟨hb, r1⟩)
        · simp only [Act.put, List.setIfInBounds_toArray, List.set_cons_zero, List.set_cons_succ]
          exact key120.out (g0, g1, 0) _ (⟨hb, r0⟩)
        · simp only [Act.put, List.setIfInBounds_toArray, List.set_cons_zero, List.set_cons_succ]
          exact key111.out (g0, g1, W.heap.size) _ (⟨hb.alloc hb.size _, World.rowIs.alloc r0 _, World.rowIs.alloc r1 _, Lw.rowB_new W MR r HMR.out.1 HMR.out.2⟩)
      simp only [Act.put, List.setIfInBounds_toArray, List.set_cons_zero, List.set_cons_succ] at key1100
      have key110 := Lib.hid key1100
      clear key1100
      refine Lw.meetA (fun (gs : Nat × Nat × Nat) a => ((a.put (some 54) (.slice (some ⟨gs.1, 0, none⟩) x x)).put (some 55) (.string KX))) #[true, true, true, true, false, false, true, true, false, false, false, false, false, false, false, false] 10 (fun (gs : Nat × Nat × Nat) W => Below w.heap.size w W) ?_ (fun key2000 => ?_)
      · rintro ⟨g0, g1, g2⟩ W hb
        simp only [Act.put, List.setIfInBounds_toArray, List.set_cons_zero, List.set_cons_succ]
        refine wpAny_ready (rs := [4, 8]) (by kernel_rfl) (by simp) ?_
        refine ready_one2 (some 57) rfl rfl rfl (.slice (some ⟨W.heap.size, 0, none⟩) y y) (W.alloc (.cells MY 5)) (by go_simp) ?_ (ready_one2 (some 61) rfl rfl rfl (.slice (some ⟨W.heap.size, 0, none⟩) r r) (W.alloc (.cells MR 5)) (by go_simp) ?_ AllReady.nil)
        · simp only [Act.put, List.setIfInBounds_toArray, List.set_cons_zero, List.set_cons_succ]
          exact key210.out (g0, W.heap.size, 0) _ (⟨hb.alloc hb.size _, Lw.rowB_new W MY y HMY.out.1 HMY.out.2⟩)
        · simp only [Act.put, List.setIfInBounds_toArray, List.set_cons_zero, List.set_cons_succ]
          exact key201.out (g0, 0, W.heap.size) _ (⟨hb.alloc hb.size _, Lw.rowB_new W MR r HMR.out.1 HMR.out.2⟩)
      simp only [Act.put, List.setIfInBounds_toArray, List.set_cons_zero, List.set_cons_succ] at key2000
      have key200 := Lib.hid key2000
      clear key2000
      refine Lw.meetA (fun (gs : Nat × Nat × Nat) a => (a.put (some 61) (.slice (some ⟨gs.2.2, 0, none⟩) r r))) #[true, false, false, true, false, false, true, true, true, false, false, false, false, false, false, false] 11 (fun (gs : Nat × Nat × Nat) W => Below w.heap.size w W ∧ Lw.RowB W gs.2.2 r (fun _ => 0)) ?_ (fun key0010 => ?_)
      · rintro ⟨g0, g1, g2⟩ W ⟨hb, r2⟩
        simp only [Act.put, List.setIfInBounds_toArray, List.set_cons_zero, List.set_cons_succ]
        have cv2 := hKR.out W g2 r2
        refine wpAny_ready (rs := [1, 4, 9]) (by kernel_rfl) (by simp) ?_
        refine ready_one2 (some 54) rfl rfl rfl (.slice (some ⟨W.heap.size, 0, none⟩) x x) (W.alloc (.cells MX 5)) (by go_simp) ?_ (ready_one2 (some 57) rfl rfl rfl (.slice (some ⟨W.heap.size, 0, none⟩) y y) (W.alloc (.cells MY 5)) (by go_simp) ?_ (ready_one2 (some 62) rfl rfl rfl (.string KR) W (by go_simp) ?_ AllReady.nil))
        · simp only [Act.put, List.setIfInBounds_toArray, List.set_cons_zero, List.set_cons_succ]
          exact key101.out (W.heap.size, 0, g2) _ (⟨hb.alloc hb.size _, Lw.rowB_new W MX x HMX.out.1 HMX.out.2, World.rowIs.alloc r2 _⟩)
        · simp only [Act.put, List.setIfInBounds_toArray, List.set_cons_zero, List.set_cons_succ]
          exact key011.out (0, W.heap.size, g2) _ (⟨hb.alloc hb.size _, Lw.rowB_new W MY y HMY.out.1 HMY.out.2, World.rowIs.alloc r2 _⟩)
        · simp only [Act.put, List.setIfInBounds_toArray, List.set_cons_zero, List.set_cons_succ]
          exact key002.out (0, 0, g2) _ (hb)
      simp only [Act.put, List.setIfInBounds_toArray, List.set_cons_zero, List.set_cons_succ] at key0010
      have key001 := Lib.hid key0010
      clear key0010
      refine Lw.meetA (fun (gs : Nat × Nat × Nat) a => (a.put (some 57) (.slice (some ⟨gs.2.1, 0, none⟩) y y))) #[true, false, false, true, true, false, true, true, false, false, false, false, false, false, false, false] 11 (fun (gs : Nat × Nat × Nat) W => Below w.heap.size w W ∧ Lw.RowB W gs.2.1 y (fun _ => 0)) ?_ (fun key0100 => ?_)
      · rintro ⟨g0, g1, g2⟩ W ⟨hb, r1⟩
        simp only [Act.put, List.setIfInBounds_toArray, List.set_cons_zero, List.set_cons_succ]
        have cv1 := hKY.out W g1 r1
        refine wpAny_ready (rs := [1, 5, 8]) (by kernel_rfl) (by simp) ?_
        refine ready_one2 (some 54) rfl rfl rfl (.slice (some ⟨W.heap.size, 0, none⟩) x x) (W.alloc (.cells MX 5)) (by go_simp) ?_ (ready_one2 (some 58) rfl rfl rfl (.string KY) W (by go_simp) ?_ (ready_one2 (some 61) rfl rfl rfl (.slice (some ⟨W.heap.size, 0, none⟩) r r) (W.alloc (.cells MR 5)) (by go_simp) ?_ AllReady.nil))
        · simp only [Act.put, List.setIfInBounds_toArray, List.set_cons_zero, List.set_cons_succ]
          exact key110.out (W.heap.size, g1, 0) _ (⟨hb.alloc hb.size _, Lw.rowB_new W MX x HMX.out.1 HMX.out.2, World.rowIs.alloc r1 _⟩)
        · simp only [Act.put, List.setIfInBounds_toArray, List.set_cons_zero, List.set_cons_succ]
          exact key020.out (0, g1, 0) _ (hb)
        · simp only [Act.put, List.setIfInBounds_toArray, List.set_cons_zero, List.set_cons_succ]
          exact key011.out (0, g1, W.heap.size) _ (⟨hb.alloc hb.size _, World.rowIs.alloc r1 _, Lw.rowB_new W MR r HMR.out.1 HMR.out.2⟩)
      simp only [Act.put, List.setIfInBounds_toArray, List.set_cons_zero, List.set_cons_succ] at key0100
      have key010 := Lib.hid key0100
      clear key0100
      refine Lw.meetA (fun (gs : Nat × Nat × Nat) a => (a.put (some 54) (.slice (some ⟨gs.1, 0, none⟩) x x))) #[true, true, false, true, false, false, true, true, false, false, false, false, false, false, false, false] 11 (fun (gs : Nat × Nat × Nat) W => Below w.heap.size w W ∧ Lw.RowB W gs.1 x (fun _ => 0)) ?_ (fun key1000 => ?_)
      · rintro ⟨g0, g1, g2⟩ W ⟨hb, r0⟩
        simp only [Act.put, List.setIfInBounds_toArray, List.set_cons_zero, List.set_cons_succ]
        have cv0 := hKX.out W g0 r0
        refine wpAny_ready (rs := [2, 4, 8]) (by kernel_rfl) (by simp) ?_
        refine ready_one2 (some 55) rfl rfl rfl (.string KX) W (by go_simp) ?_ (ready_one2 (some 57) rfl rfl rfl (.slice (some ⟨W.heap.size, 0, none⟩) y y) (W.alloc (.cells MY 5)) (by go_simp) ?_ (ready_one2 (some 61) rfl rfl rfl (.slice (some ⟨W.heap.size, 0, none⟩) r r) (W.alloc (.cells MR 5)) (by go_simp) ?_ AllReady.nil))
        · simp only [Act.put, List.setIfInBounds_toArray, List.set_cons_zero, List.set_cons_succ]
          exact key200.out (g0, 0, 0) _ (hb)
        · simp only [Act.put, List.setIfInBounds_toArray, List.set_cons_zero, List.set_cons_succ]
          exact key110.out (g0, W.heap.size, 0) _ (⟨hb.alloc hb.size _, World.rowIs.alloc r0 _, Lw.rowB_new W MY y HMY.out.1 HMY.out.2⟩)
        · simp only [Act.put, List.setIfInBounds_toArray, List.set_cons_zero, List.set_cons_succ]
          exact key101.out (g0, 0, W.heap.size) _ (⟨hb.alloc hb.size _, World.rowIs.alloc r0 _, Lw.rowB_new W MR r HMR.out.1 HMR.out.2⟩)
      simp only [Act.put, List.setIfInBounds_toArray, List.set_cons_zero, List.set_cons_succ] at key1000
      have key100 := Lib.hid key1000
      clear key1000
      refine wpAny_ready (rs := [1, 4, 8]) (by kernel_rfl) (by simp) ?_
      refine ready_one2 (some 54) rfl rfl rfl (.slice (some ⟨D.heap.size, 0, none⟩) x x) (D.alloc (.cells MX 5)) (by go_simp) ?_ (ready_one2 (some 57) rfl rfl rfl (.slice (some ⟨D.heap.size, 0, none⟩) y y) (D.alloc (.cells MY 5)) (by go_simp) ?_ (ready_one2 (some 61) rfl rfl rfl (.slice (some ⟨D.heap.size, 0, none⟩) r r) (D.alloc (.cells MR 5)) (by go_simp) ?_ AllReady.nil))
      · simp only [Act.put, List.setIfInBounds_toArray, List.set_cons_zero, List.set_cons_succ]
        exact key100.out (D.heap.size, 0, 0) _ (⟨HB.out.alloc HB.out.size _, Lw.rowB_new D MX x HMX.out.1 HMX.out.2⟩)
      · simp only [Act.put, List.setIfInBounds_toArray, List.set_cons_zero, List.set_cons_succ]
        exact key010.out (0, D.heap.size, 0) _ (⟨HB.out.alloc HB.out.size _, Lw.rowB_new D MY y HMY.out.1 HMY.out.2⟩)
      · simp only [Act.put, List.setIfInBounds_toArray, List.set_cons_zero, List.set_cons_succ]
        exact key001.out (0, 0, D.heap.size) _ (⟨HB.out.alloc HB.out.size _, Lw.rowB_new D MR r HMR.out.1 HMR.out.2⟩)
    simp only [Act.put, List.setIfInBounds_toArray, List.set_cons_zero, List.set_cons_succ] at key220
    have key22 := Lib.hid key220
    clear key220
    refine Lw.meetA (fun (gs : Nat × Nat) a => (((a.put (some 44) (.slice (some ⟨gs.1, 0, none⟩) x x)).put (some 47) (.slice (some ⟨gs.2, 0, none⟩) y y)).put (some 48) (.string KY))) #[true, true, false, true, true, true, false, false, false, false, false, false] 7 (fun (gs : Nat × Nat) W => Below w.heap.size w W ∧ Lw.RowB W gs.1 x (fun _ => 0)) ?_ (fun key120 => ?_)
    · rintro ⟨g0, g1⟩ W ⟨hb, r0⟩
      simp only [Act.put, List.setIfInBounds_toArray, List.set_cons_zero, List.set_cons_succ]
      have cv0 := hKX.out W g0 r0
      refine wpAny_ready (rs := [2]) (by kernel_rfl) (by simp) ?_
      refine ready_one2 (some 45) rfl rfl rfl (.string KX) W (by go_simp) ?_ AllReady.nil
      · simp only [Act.put, List.setIfInBounds_toArray, List.set_cons_zero, List.set_cons_succ]
        exact key22.out (g0, g1) _ (hb)
    simp only [Act.put, List.setIfInBounds_toArray, List.set_cons_zero, List.set_cons_succ] at key120
    have key12 := Lib.hid key120
    clear key120
    refine Lw.meetA (fun (gs : Nat × Nat) a => (((a.put (some 44) (.slice (some ⟨gs.1, 0, none⟩) x x)).put (some 45) (.string KX)).put (some 47) (.slice (some ⟨gs.2, 0, none⟩) y y))) #[true, true, true, true, true, false, false, false, false, false, false, false] 7 (fun (gs : Nat × Nat) W => Below w.heap.size w W ∧ Lw.RowB W gs.2 y (fun _ => 0)) ?_ (fun key210 => ?_)
    · rintro ⟨g0, g1⟩ W ⟨hb, r1⟩
      simp only [Act.put, List.setIfInBounds_toArray, List.set_cons_zero, List.set_cons_succ]
      have cv1 := hKY.out W g1 r1
      refine wpAny_ready (rs := [5]) (by kernel_rfl) (by simp) ?_
      refine ready_one2 (some 48) rfl rfl rfl (.string KY) W (by go_simp) ?_ AllReady.nil
      · simp only [Act.put, List.setIfInBounds_toArray, List.set_cons_zero, List.set_cons_succ]
        exact key22.out (g0, g1) _ (hb)
    simp only [Act.put, List.setIfInBounds_toArray, List.set_cons_zero, List.set_cons_succ] at key210
    have key21 := Lib.hid key210
    clear key210
    refine Lw.meetA (fun (gs : Nat × Nat) a => ((a.put (some 47) (.slice (some ⟨gs.2, 0, none⟩) y y)).put (some 48) (.string KY))) #[true, false, false, true, true, true, false, false, false, false, false, false] 8 (fun (gs : Nat × Nat) W => Below w.heap.size w W) ?_ (fun key020 => ?_)
    · rintro ⟨g0, g1⟩ W hb
      simp only [Act.put, List.setIfInBounds_toArray, List.set_cons_zero, List.set_cons_succ]
      refine wpAny_ready (rs := [1]) (by kernel_rfl) (by simp) ?_
      refine ready_one2 (some 44) rfl rfl rfl (.slice (some ⟨W.heap.size, 0, none⟩) x x) (W.alloc (.cells MX 5)) (by go_simp) ?_ AllReady.nil
      · simp only [Act.put, List.setIfInBounds_toArray, List.set_cons_zero, List.set_cons_succ]
        exact key12.out (W.heap.size, g1) _ (⟨hb.alloc hb.size _, Lw.rowB_new W MX x HMX.out.1 HMX.out.2⟩)
    simp only [Act.put, List.setIfInBounds_toArray, List.set_cons_zero, List.set_cons_succ] at key020
    have key02 := Lib.hid key020
    clear key020
    refine Lw.meetA (fun (gs : Nat × Nat) a => ((a.put (some 44) (.slice (some ⟨gs.1, 0, none⟩) x x)).put (some 47) (.slice (some ⟨gs.2, 0, none⟩) y y))) #[true, true, false, true, true, false, false, false, false, false, false, false] 8 (fun (gs : Nat × Nat) W => Below w.heap.size w W ∧ Lw.RowB W gs.1 x (fun _ => 0) ∧ Lw.RowB W gs.2 y (fun _ => 0)) ?_ (fun key110 => ?_)
    · rintro ⟨g0, g1⟩ W ⟨hb, r0, r1⟩
      simp only [Act.put, List.setIfInBounds_toArray, List.set_cons_zero, List.set_cons_succ]
      have cv0 := hKX.out W g0 r0
      have cv1 := hKY.out W g1 r1
      refine wpAny_ready (rs := [2, 5]) (by kernel_rfl) (by simp) ?_
      refine ready_one2 (some 45) rfl rfl rfl (.string KX) W (by go_simp) ?_ (ready_one2 (some 48) rfl rfl rfl (.string KY) W (by go_simp) ?_ AllReady.nil)
      · simp only [Act.put, List.setIfInBounds_toArray, List.set_cons_zero, List.set_cons_succ]
        exact key21.out (g0, g1) _ (⟨hb, r1⟩)
      · simp only [Act.put, List.setIfInBounds_toArray, List.set_cons_zero, List.set_cons_succ]
        exact key12.out (g0, g1) _ (⟨hb, r0⟩)
    simp only [Act.put, List.setIfInBounds_toArray, List.set_cons_zero, List.set_cons_succ] at key110
    have key11 := Lib.hid key110
    clear key110
    refine Lw.meetA (fun (gs : Nat × Nat) a => ((a.put (some 44) (.slice (some ⟨gs.1, 0, none⟩) x x)).put (some 45) (.string KX))) #[true, true, true, true, false, false, false, false, false, false, false, false] 8 (fun (gs : Nat × Nat) W => Below w.heap.size w W) ?_ (fun key200 => ?_)
    · rintro ⟨g0, g1⟩ W hb
      simp only [Act.put, List.setIfInBounds_toArray, List.set_cons_zero, List.set_cons_succ]
      refine wpAny_ready (rs := [4]) (by kernel_rfl) (by simp) ?_
      refine ready_one2 (some 47) rfl rfl rfl (.slice (some ⟨W.heap.size, 0, none⟩) y y) (W.alloc (.cells MY 5)) (by go_simp) ?_ AllReady.nil
      · simp only [Act.put, List.setIfInBounds_toArray, List.set_cons_zero, List.set_cons_succ]
        exact key21.out (g0, W.heap.size) _ (⟨hb.alloc hb.size _, Lw.rowB_new W MY y HMY.out.1 HMY.out.2⟩)
    simp only [Act.put, List.setIfInBounds_toArray, List.set_cons_zero, List.set_cons_succ] at key200
    have key20 := Lib.hid key200
    clear key200
    refine Lw.meetA (fun (gs : Nat × Nat) a => (a.put (some 47) (.slice (some ⟨gs.2, 0, none⟩) y y))) #[true, false, false, true, true, false, false, false, false, false, false, false] 9 (fun (gs : Nat × Nat) W => Below w.heap.size w W ∧ Lw.RowB W gs.2 y (fun _ => 0)) ?_ (fun key010 => ?_)
    · rintro ⟨g0, g1⟩ W ⟨hb, r1⟩
      simp only [Act.put, List.setIfInBounds_toArray, List.set_cons_zero, List.set_cons_succ]
      have cv1 := hKY.out W g1 r1
      refine wpAny_ready (rs := [1, 5]) (by kernel_rfl) (by simp) ?_
      refine ready_one2 (some 44) rfl rfl rfl (.slice (some ⟨W.heap.size, 0, none⟩) x x) (W.alloc (.cells MX 5)) (by go_simp) ?_ (ready_one2 (some 48) rfl rfl rfl (.string KY) W (by go_simp) ?_ AllReady.nil)
      · simp only [Act.put, List.setIfInBounds_toArray, List.set_cons_zero, List.set_cons_succ]
        exact key11.out (W.heap.size, g1) _ (⟨hb.alloc hb.size _, Lw.rowB_new W MX x HMX.out.1 HMX.out.2, World.rowIs.alloc r1 _⟩)
      · simp only [Act.put, List.setIfInBounds_toArray, List.set_cons_zero, List.set_cons_succ]
        exact key02.out (0, g1) _ (hb)
    simp only [Act.put, List.setIfInBounds_toArray, List.set_cons_zero, List.set_cons_succ] at key010
    have key01 := Lib.hid key010
    clear key010
    refine Lw.meetA (fun (gs : Nat × Nat) a => (a.put (some 44) (.slice (some ⟨gs.1, 0, none⟩) x x))) #[true, true, false, true, false, false, false, false, false, false, false, false] 9 (fun (gs : Nat × Nat) W => Below w.heap.size w W ∧ Lw.RowB W gs.1 x (fun _ => 0)) ?_ (fun key100 => ?_)
    · rintro ⟨g0, g1⟩ W ⟨hb, r0⟩
      simp only [Act.put, List.setIfInBounds_toArray, List.set_cons_zero, List.set_cons_succ]
      have cv0 := hKX.out W g0 r0
      refine wpAny_ready (rs := [2, 4]) (by kernel_rfl) (by simp) ?_
      refine ready_one2 (some 45) rfl rfl rfl (.string KX) W (by go_simp) ?_ (ready_one2 (some 47) rfl rfl rfl (.slice (some ⟨W.heap.size, 0, none⟩) y y) (W.alloc (.cells MY 5)) (by go_simp) ?_ AllReady.nil)
      · simp only [Act.put, List.setIfInBounds_toArray, List.set_cons_zero, List.set_cons_succ]
        exact key20.out (g0, 0) _ (hb)
      · simp only [Act.put, List.setIfInBounds_toArray, List.set_cons_zero, List.set_cons_succ]
        exact key11.out (g0, W.heap.size) _ (⟨hb.alloc hb.size _, World.rowIs.alloc r0 _, Lw.rowB_new W MY y HMY.out.1 HMY.out.2⟩)
    simp only [Act.put, List.setIfInBounds_toArray, List.set_cons_zero, List.set_cons_succ] at key100
    have key10 := Lib.hid key100
    clear key100
    refine wpAny_ready (rs := [1, 4]) (by kernel_rfl) (by simp) ?_
    refine ready_one2 (some 44) rfl rfl rfl (.slice (some ⟨D.heap.size, 0, none⟩) x x) (D.alloc (.cells MX 5)) (by go_simp) ?_ (ready_one2 (some 47) rfl rfl rfl (.slice (some ⟨D.heap.size, 0, none⟩) y y) (D.alloc (.cells MY 5)) (by go_simp) ?_ AllReady.nil)
    · simp only [Act.put, List.setIfInBounds_toArray, List.set_cons_zero, List.set_cons_succ]
      exact key10.out (D.heap.size, 0) _ (⟨HB.out.alloc HB.out.size _, Lw.rowB_new D MX x HMX.out.1 HMX.out.2⟩)
    · simp only [Act.put, List.setIfInBounds_toArray, List.set_cons_zero, List.set_cons_succ]
      exact key01.out (0, D.heap.size) _ (⟨HB.out.alloc HB.out.size _, Lw.rowB_new D MY y HMY.out.1 HMY.out.2⟩)

set_option maxRecDepth 100000 in
theorem lifted (os : Os) (started : os.Started) (H : Type) (enc : TypeId × Value → H) :
    ReturnsInHanded {} Try.checked os 7 .any (Rows.gcmFormsSpec.pre6 enc Try.prog Try.f7 Rows.gcmFormsRow.domain false) (Rows.gcmFormsSpec.post enc Try.prog Try.f7 false true false false) := by
  refine returnsInHanded_of_change (C := Try.checked) own started (by kernel_rfl) Try.func7
    (ChangeSpec.witness6 (enc := enc) (C := Try.checked) false ⟨#[], #[.int .i64 0, .int .i64 0, .int .i64 0, .int .i64 0], []⟩ 8 (by kernel_rfl) (by kernel_rfl) (by kernel_rfl) (by kernel_rfl)) ?_
  intro W base args ds gs before hval0 hW hcnd _
  have hval : ∀ (j : Nat) t v, Try.f7.params[j]? = some t → args[j]? = some v → Value.okWide Try.prog W .any base t v := hval0
  have hW' := hW
  obtain ⟨p, q, hA0, hV, rfl, hfz, hnd⟩ := hW
  have hA : DataW.TrodAll enc Try.prog W 0 (fun _ => true) true Try.f7.params.toList args.toList ds p := hA0
  rw [Try.params7] at hA hval
  obtain ⟨v0, vs0, d0, ds0, p0, q0, hargs, rfl, rfl, h0, r0⟩ := trodAll_cons hA
  obtain ⟨v1, vs1, d1, ds1, p1, q1, rfl, rfl, rfl, h1, r1⟩ := trodAll_cons r0
  obtain ⟨v2, vs2, d2, ds2, p2, q2, rfl, rfl, rfl, h2, r2⟩ := trodAll_cons r1
  obtain ⟨v3, vs3, d3, ds3, p3, q3, rfl, rfl, rfl, h3, r3⟩ := trodAll_cons r2
  obtain ⟨rfl, rfl, rfl⟩ := trodAll_nil r3
  obtain rfl : args = #[v0, v1, v2, v3] := by cases args; simp_all
  obtain ⟨rfl, rfl⟩ := trodVars_none hV
  obtain ⟨a0, rfl, rfl, rfl, w0⟩ := open_int Try.underlying3 (hval 0 3 v0 rfl rfl) h0
  obtain ⟨a1, rfl, rfl, rfl, w1⟩ := open_int Try.underlying3 (hval 1 3 v1 rfl rfl) h1
  obtain ⟨a2, rfl, rfl, rfl, w2⟩ := open_int Try.underlying3 (hval 2 3 v2 rfl rfl) h2
  obtain ⟨a3, rfl, rfl, rfl, w3⟩ := open_int Try.underlying3 (hval 3 3 v3 rfl rfl) h3
  clear hA0 hval0
  simp only [List.append_nil] at hW'
  refine (walk a0 a1 a2 a3 w0 w1 w2 w3 W).mono fun e W' ⟨he, bel⟩ => ?_
  subst he
  exact ⟨_, rfl, _, _, _, [], [], [], hW', trodAll_mk1 (shut_bool Try.underlying4 _), (trodAll_cons_mk (shut_int Try.underlying3 w0) (trodAll_cons_mk (shut_int Try.underlying3 w1) (trodAll_cons_mk (shut_int Try.underlying3 w2) (trodAll_cons_mk (shut_int Try.underlying3 w3) trodAll_mk0)))), rfl, bel.frame _, fun h => by cases h⟩

theorem over : Rows.gcmFormsRow.holds Try.pinned (OpenSpec.ofChange Rows.gcmFormsSpec) :=
  OpenClaim.holds_of_wide 7 Try.f7 rfl rfl rfl rfl rfl rfl rfl ⟨rfl, rfl, rfl, rfl, rfl⟩ rfl rfl rfl rfl rfl (by kernel_rfl) Try.func7 (by kernel_rfl)
    (of_decide_eq_true (by kernel_rfl)) (by unfold Func.isWrapper; first | (rw [if_pos (by decide +kernel)]; kernel_rfl) | (rw [if_neg (by decide +kernel)]; exact ⟨rfl, rfl⟩))
    (fun os started H enc _ => lifted os started H enc)

theorem proved : Rows.GcmFormsSaid :=
  over
#print axioms proved
end Go.Proofs.Ytfjodabkfjfcbaa.gcmForms
