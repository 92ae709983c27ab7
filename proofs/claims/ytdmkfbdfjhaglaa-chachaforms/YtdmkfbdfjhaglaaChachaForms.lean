/-
  Proved: halberdlaw6.ChachaForms answers true at every input: which keys, numbers and nonces there are. Conditions: none but the row's.
-/
import Derived.Test.YtdmkfbdfjhaglaaCdH
import Derived.Test.YtdmkfbdfjhaglaaRows
import Derived.WalkKit
import Derived.ProofKit
import Derived.OpenShut
import Derived.ShutString
import Derived.Below
import Derived.ChangeOld
namespace Go.Proofs.Ytdmkfbdfjhaglaa.chachaForms
open Go.ChangeShapes Go.WideShapes Go.ChangeAt Go.RowKit
open Go.ChangeMaps (open_string shut_string)
set_option linter.unusedVariables false

theorem own : ownKnob Try.prog.godebug = none := by kernel_rfl

open Go.Proofs.Im (ready_one2 ready_call2 wpAny_two)
set_option maxHeartbeats 8000000 in
set_option maxRecDepth 100000 in
theorem walk (a0 : Int) (a1 : Int) (a2 : Int) (_w0 : (Lit.int .i64 a0).wf = true) (_w1 : (Lit.int .i64 a1).wf = true) (_w2 : (Lit.int .i64 a2).wf = true) (w : World) :
    Calls Try.prog 6 #[.int .i64 a0, .int .i64 a1, .int .i64 a2] w fun e w' => e = .returned (.bool true) ∧ Below w.heap.size w w' := by
  clear _w0 _w1 _w2
  have HB : Hid (Below w.heap.size w w) := Below.refl _ _
  obtain ⟨x0, hx0, hmx⟩ := Cd.maskN7 a0
  obtain ⟨y0, hy0, hmy⟩ := Cd.maskN7 a2
  obtain ⟨x, hx⟩ : ∃ s : Nat, s = 28 + x0 := ⟨_, rfl⟩
  obtain ⟨y, hy⟩ : ∃ s : Nat, s = 8 + y0 := ⟨_, rfl⟩
  have wx : wrap64 (28 + (x0 : Int)) = (x : Int) := by unfold wrap64; omega
  have wy : wrap64 (8 + (y0 : Int)) = (y : Int) := by unfold wrap64; omega
  obtain ⟨MX, h1X, h2X, hmkX0⟩ := Lw.zeros x (by omega)
  have hmkX : ∀ W : World, (Instr.makeSlice 32 (.int .i64 (x : Int)) (.int .i64 (x : Int))).run Try.prog W = .ok (.slice (some ⟨W.heap.size, 0, none⟩) x x) (W.alloc (.cells MX 5)) := hmkX0
  have HMX : Hid (MX.size = x ∧ ∀ i, i < x → MX[i]? = some (.int .u8 0)) := ⟨h1X, h2X⟩
  clear h1X h2X hmkX0
  obtain ⟨MY, h1Y, h2Y, hmkY0⟩ := Lw.zeros y (by omega)
  have hmkY : ∀ W : World, (Instr.makeSlice 32 (.int .i64 (y : Int)) (.int .i64 (y : Int))).run Try.prog W = .ok (.slice (some ⟨W.heap.size, 0, none⟩) y y) (W.alloc (.cells MY 5)) := hmkY0
  have HMY : Hid (MY.size = y ∧ ∀ i, i < y → MY[i]? = some (.int .u8 0)) := ⟨h1Y, h2Y⟩
  clear h1Y h2Y hmkY0
  obtain ⟨MZ, h1Z, h2Z, hmkZ0⟩ := Lw.zeros 32 (by decide)
  have hmkZ : ∀ W : World, (Instr.makeSlice 32 (.int .i64 32) (.int .i64 32)).run Try.prog W = .ok (.slice (some ⟨W.heap.size, 0, none⟩) 32 32) (W.alloc (.cells MZ 5)) := hmkZ0
  have HMZ : Hid (MZ.size = 32 ∧ ∀ i, i < 32 → MZ[i]? = some (.int .u8 0)) := ⟨h1Z, h2Z⟩
  clear h1Z h2Z hmkZ0
  obtain ⟨MV, h1V, h2V, hmkV0⟩ := Lw.zeros 12 (by decide)
  have hmkV : ∀ W : World, (Instr.makeSlice 32 (.int .i64 12) (.int .i64 12)).run Try.prog W = .ok (.slice (some ⟨W.heap.size, 0, none⟩) 12 12) (W.alloc (.cells MV 5)) := hmkV0
  have HMV : Hid (MV.size = 12 ∧ ∀ i, i < 12 → MV[i]? = some (.int .u8 0)) := ⟨h1V, h2V⟩
  clear h1V h2V hmkV0
  obtain ⟨MT, h1T, h2T, hmkT0⟩ := Lw.zeros 65537 (by decide)
  have hmkT : ∀ W : World, (Instr.makeSlice 32 (.int .i64 65537) (.int .i64 65537)).run Try.prog W = .ok (.slice (some ⟨W.heap.size, 0, none⟩) 65537 65537) (W.alloc (.cells MT 5)) := hmkT0
  have HMT : Hid (MT.size = 65537 ∧ ∀ i, i < 65537 → MT[i]? = some (.int .u8 0)) := ⟨h1T, h2T⟩
  clear h1T h2T hmkT0
  obtain ⟨KX, hsX, hcX⟩ := Lw.nought_text x
  have hKX := Lib.hid hcX
  clear hcX
  obtain ⟨KY, hsY, hcY⟩ := Lw.nought_text y
  have hKY := Lib.hid hcY
  clear hcY
  obtain ⟨KZ, hsZ, hcZ⟩ := Lw.nought_text 32
  have hKZ := Lib.hid hcZ
  clear hcZ
  obtain ⟨KV, hsV, hcV⟩ := Lw.nought_text 12
  have hKV := Lib.hid hcV
  clear hcV
  obtain ⟨KT, hsT, hcT⟩ := Lw.nought_text 65537
  have hKT := Lib.hid hcT
  clear hcT
  have kB := Lib.hid fun W => Cd.blk_any KX a1 KY W
  have kX := Lib.hid fun W => Cd.xor_any KX a1 KY Cd.oneS W
  have kT := Lib.hid fun W => Cd.xor_long KZ 0 KV KT W (by omega)
  have HF : Hid ((x = 32 ∧ y = 12 ∧ 0 ≤ a1 ∧ a1 ≤ 4294967295 ∧ 0 = Cha.blkE KX a1 KY ∧ 0 = Cha.xorE KX a1 KY Cd.oneS) ∨ (¬ (x = 32 ∧ y = 12 ∧ 0 ≤ a1 ∧ a1 ≤ 4294967295) ∧ 600 = Cha.blkE KX a1 KY ∧ 600 = Cha.xorE KX a1 KY Cd.oneS)) := by
    by_cases h : x = 32 ∧ y = 12 ∧ 0 ≤ a1 ∧ a1 ≤ 4294967295
    · have f := Cd.form_ok KX a1 KY (by omega) (by omega) h.2.2.1 h.2.2.2
      exact Or.inl ⟨h.1, h.2.1, h.2.2.1, h.2.2.2, f.1.symm, f.2.symm⟩
    · have f := Cd.form_no KX a1 KY (by rw [hsX, hsY]; intro hh; exact h ⟨hh.1, hh.2.2.2, hh.2.1, hh.2.2.1⟩)
      exact Or.inr ⟨h, f.1.symm, f.2.symm⟩
  generalize Cha.blkS KX a1 KY = T1 at kB
  generalize Cha.blkE KX a1 KY = E1 at kB HF
  generalize Cha.xorS KX a1 KY Cd.oneS = T2 at kX
  generalize Cha.xorE KX a1 KY Cd.oneS = E2 at kX HF
  simp only [Cd.oneS] at kX
  clear hx0 hy0 hx hy hsX hsY hsZ hsV hsT
  have h5 : (x = 32 ∧ y = 12 ∧ (0 ≤ a1 ∧ a1 ≤ 4294967295) ∧ 0 = E1 ∧ 0 = E2) ∨ (¬ x = 32 ∧ 0 ≤ x ∧ 0 ≤ x ∧ 600 = E1 ∧ 600 = E2) ∨ (x = 32 ∧ ¬ y = 12 ∧ 0 ≤ x ∧ 600 = E1 ∧ 600 = E2) ∨ (x = 32 ∧ y = 12 ∧ a1 < 0 ∧ 600 = E1 ∧ 600 = E2) ∨ (x = 32 ∧ y = 12 ∧ 4294967295 < a1 ∧ 600 = E1 ∧ 600 = E2) := by have := HF.out; omega
  clear HF
  rcases h5 with h5 | h5 | h5 | h5 | h5
  all_goals
    obtain ⟨h51, h52, h53, hE1, hE2⟩ := h5
    have HE1 := Lib.hid hE1
    have HE2 := Lib.hid hE2
    clear hE1 hE2
    try have e1 : ((x : Int) == 32) = true := by simp; omega
    try have e2 : ((x : Int) == 32) = false := by simp; omega
    try have e3 : ((y : Int) == 12) = true := by simp; omega
    try have e4 : ((y : Int) == 12) = false := by simp; omega
    try have e5 : ((0 : Int) ≤ a1) = True := eq_true (by omega)
    try have e6 : (a1 < 0) = False := eq_false (by omega)
    try have e7 : (a1 ≤ 4294967295) = True := eq_true (by omega)
    try have e8 : ((4294967295 : Int) < a1) = False := eq_false (by omega)
    try have f5 : ((0 : Int) ≤ a1) = False := eq_false (by omega)
    try have f6 : (a1 < 0) = True := eq_true (by omega)
    try have f7 : (a1 ≤ 4294967295) = False := eq_false (by omega)
    try have f8 : ((4294967295 : Int) < a1) = True := eq_true (by omega)
    clear h51 h52 h53
    go_enter Try.func6, Try.ntmps6
    go_wp2_with (fail)
    refine (Cd.awake6_any _).mono ?_
    rintro e u ⟨rfl, hb⟩
    have HB := Lib.hid (Lw.go_on HB.out hb)
    clear hb
    go_upto_region 5 with (fail)
    refine wp_region_any (by kernel_rfl) ?_
    change wpAny _ _ _ _ _ _ _ u.drew
    have HB : Hid (Below w.heap.size w u.drew) := HB.out.drew
    generalize u.drew = D at HB ⊢
    refine Lw.take_to (i := 0) (some 39) (.int .i64 (x : Int)) rfl rfl (by kernel_rfl) (by kernel_rfl) (by kernel_rfl) (fun _ _ _ h => h) (Or.inl ⟨by rfl, fun w => by go_simp⟩) ?_
    simp only [Act.put, List.setIfInBounds_toArray, List.set_cons_zero, List.set_cons_succ]
    refine Lw.take_to (i := 3) (some 42) (.int .i64 a1) rfl rfl (by kernel_rfl) (by kernel_rfl) (by kernel_rfl) (fun _ _ _ h => h) (Or.inl ⟨by rfl, fun w => by go_simp⟩) ?_
    simp only [Act.put, List.setIfInBounds_toArray, List.set_cons_zero, List.set_cons_succ]
    refine Lw.take_to (i := 4) (some 43) (.int .i64 (y : Int)) rfl rfl (by kernel_rfl) (by kernel_rfl) (by kernel_rfl) (fun _ _ _ h => h) (Or.inl ⟨by rfl, fun w => by go_simp⟩) ?_
    simp only [Act.put, List.setIfInBounds_toArray, List.set_cons_zero, List.set_cons_succ]
    refine Lw.meetA (fun (gs : Nat × Nat) a => ((((a.put (some 40) (.slice (some ⟨gs.1, 0, none⟩) x x)).put (some 41) (.string KX)).put (some 44) (.slice (some ⟨gs.2, 0, none⟩) y y)).put (some 45) (.string KY))) #[true, true, true, true, true, true, true, false, false, false, false, false, false] 6 (fun (gs : Nat × Nat) W => Below w.heap.size w W) ?_ (fun key220 => ?_)
    · rintro ⟨g0, g1⟩ W hb
      simp only [Act.put, List.setIfInBounds_toArray, List.set_cons_zero, List.set_cons_succ]
      have HB := Lib.hid hb
      clear hb
      refine wpAny_ready (rs := [7]) (by kernel_rfl) (by simp) ?_
      refine ready_call2 (some 46) rfl rfl rfl 7 _ _ rfl (fun _ _ => by go_simp) #[.string KX, .int .i64 a1, .string KY] (by kernel_rfl) ?_ AllReady.nil
      refine (kB.out _).mono ?_
      rintro e v ⟨rfl, hb⟩
      refine ⟨_, rfl, ?_⟩
      have HB := Lib.hid (Lw.go_on HB.out hb)
      clear hb
      simp only [Act.put, List.setIfInBounds_toArray, List.set_cons_zero, List.set_cons_succ]
      refine Lw.take_to (i := 8) (some 38) (.tuple #[.string T1, .int .i64 E1]) rfl rfl (by kernel_rfl) (by kernel_rfl) (by kernel_rfl) (fun _ _ _ h => h) (Or.inl ⟨by rfl, fun w => by go_simp⟩) ?_
      simp only [Act.put, List.setIfInBounds_toArray, List.set_cons_zero, List.set_cons_succ]
      refine Lw.take_to (i := 9) (some 47) (.string T1) rfl rfl (by kernel_rfl) (by kernel_rfl) (by kernel_rfl) (fun _ _ _ h => h) (Or.inl ⟨by rfl, fun w => by go_simp⟩) ?_
      simp only [Act.put, List.setIfInBounds_toArray, List.set_cons_zero, List.set_cons_succ]
      refine Lw.take_to (i := 10) (some 48) (.int .i64 E1) rfl rfl (by kernel_rfl) (by kernel_rfl) (by kernel_rfl) (fun _ _ _ h => h) (Or.inl ⟨by rfl, fun w => by go_simp⟩) ?_
      simp only [Act.put, List.setIfInBounds_toArray, List.set_cons_zero, List.set_cons_succ]
      refine Lw.take_to (i := 11) (some 10) (.string T1) rfl rfl (by kernel_rfl) (by kernel_rfl) (by kernel_rfl) (fun _ _ _ h => h) (Or.inl ⟨by rfl, fun w => by go_simp⟩) ?_
      simp only [Act.put, List.setIfInBounds_toArray, List.set_cons_zero, List.set_cons_succ]
      refine Lw.take_to (i := 12) (some 11) (.int .i64 E1) rfl rfl (by kernel_rfl) (by kernel_rfl) (by kernel_rfl) (fun _ _ _ h => h) (Or.inl ⟨by rfl, fun w => by go_simp⟩) ?_
      simp only [Act.put, List.setIfInBounds_toArray, List.set_cons_zero, List.set_cons_succ]
      refine wpAny_done (by kernel_rfl) ?_ _
      go_upto_region 6 with (fail)
      refine wp_region_any (by kernel_rfl) ?_
      change wpAny _ _ _ _ _ _ _ v.drew
      have HB : Hid (Below w.heap.size w v.drew) := HB.out.drew
      generalize v.drew = D at HB ⊢
      refine Lw.take_to (i := 0) (some 50) (.int .i64 (x : Int)) rfl rfl (by kernel_rfl) (by kernel_rfl) (by kernel_rfl) (fun _ _ _ h => h) (Or.inl ⟨by rfl, fun w => by go_simp⟩) ?_
      simp only [Act.put, List.setIfInBounds_toArray, List.set_cons_zero, List.set_cons_succ]
      refine Lw.take_to (i := 3) (some 53) (.int .i64 a1) rfl rfl (by kernel_rfl) (by kernel_rfl) (by kernel_rfl) (fun _ _ _ h => h) (Or.inl ⟨by rfl, fun w => by go_simp⟩) ?_
      simp only [Act.put, List.setIfInBounds_toArray, List.set_cons_zero, List.set_cons_succ]
      refine Lw.take_to (i := 4) (some 54) (.int .i64 (y : Int)) rfl rfl (by kernel_rfl) (by kernel_rfl) (by kernel_rfl) (fun _ _ _ h => h) (Or.inl ⟨by rfl, fun w => by go_simp⟩) ?_
      simp only [Act.put, List.setIfInBounds_toArray, List.set_cons_zero, List.set_cons_succ]
      refine Lw.meetA (fun (gs : Nat × Nat) a => ((((a.put (some 51) (.slice (some ⟨gs.1, 0, none⟩) x x)).put (some 52) (.string KX)).put (some 55) (.slice (some ⟨gs.2, 0, none⟩) y y)).put (some 56) (.string KY))) #[true, true, true, true, true, true, true, false, false, false, false, false, false] 6 (fun (gs : Nat × Nat) W => Below w.heap.size w W) ?_ (fun key220 => ?_)
      · rintro ⟨g0, g1⟩ W hb
        simp only [Act.put, List.setIfInBounds_toArray, List.set_cons_zero, List.set_cons_succ]
        have HB := Lib.hid hb
        clear hb
        refine wpAny_ready (rs := [7]) (by kernel_rfl) (by simp) ?_
        refine ready_call2 (some 57) rfl rfl rfl 9 _ _ rfl (fun _ _ => by go_simp) #[.string KX, .int .i64 a1, .string KY, .string ⟨#[97]⟩] (by kernel_rfl) ?_ AllReady.nil
        refine (kX.out _).mono ?_
        rintro e v ⟨rfl, hb⟩
        refine ⟨_, rfl, ?_⟩
        have HB := Lib.hid (Lw.go_on HB.out hb)
        clear hb
        simp only [Act.put, List.setIfInBounds_toArray, List.set_cons_zero, List.set_cons_succ]
        refine Lw.take_to (i := 8) (some 49) (.tuple #[.string T2, .int .i64 E2]) rfl rfl (by kernel_rfl) (by kernel_rfl) (by kernel_rfl) (fun _ _ _ h => h) (Or.inl ⟨by rfl, fun w => by go_simp⟩) ?_
        simp only [Act.put, List.setIfInBounds_toArray, List.set_cons_zero, List.set_cons_succ]
        refine Lw.take_to (i := 9) (some 58) (.string T2) rfl rfl (by kernel_rfl) (by kernel_rfl) (by kernel_rfl) (fun _ _ _ h => h) (Or.inl ⟨by rfl, fun w => by go_simp⟩) ?_
        simp only [Act.put, List.setIfInBounds_toArray, List.set_cons_zero, List.set_cons_succ]
        refine Lw.take_to (i := 10) (some 59) (.int .i64 E2) rfl rfl (by kernel_rfl) (by kernel_rfl) (by kernel_rfl) (fun _ _ _ h => h) (Or.inl ⟨by rfl, fun w => by go_simp⟩) ?_
        simp only [Act.put, List.setIfInBounds_toArray, List.set_cons_zero, List.set_cons_succ]
        refine Lw.take_to (i := 11) (some 12) (.string T2) rfl rfl (by kernel_rfl) (by kernel_rfl) (by kernel_rfl) (fun _ _ _ h => h) (Or.inl ⟨by rfl, fun w => by go_simp⟩) ?_
        simp only [Act.put, List.setIfInBounds_toArray, List.set_cons_zero, List.set_cons_succ]
        refine Lw.take_to (i := 12) (some 13) (.int .i64 E2) rfl rfl (by kernel_rfl) (by kernel_rfl) (by kernel_rfl) (fun _ _ _ h => h) (Or.inl ⟨by rfl, fun w => by go_simp⟩) ?_
        simp only [Act.put, List.setIfInBounds_toArray, List.set_cons_zero, List.set_cons_succ]
        refine wpAny_done (by kernel_rfl) ?_ _
        go_upto_region 7 with (fail)
        refine wp_region_any (by kernel_rfl) ?_
        change wpAny _ _ _ _ _ _ _ v.drew
        have HB : Hid (Below w.heap.size w v.drew) := HB.out.drew
        generalize v.drew = D at HB ⊢
        refine Lw.meetA (fun (gs : Nat × Nat × Nat) a => ((((((a.put (some 61) (.slice (some ⟨gs.1, 0, none⟩) 32 32)).put (some 62) (.string KZ)).put (some 63) (.slice (some ⟨gs.2.1, 0, none⟩) 12 12)).put (some 64) (.string KV)).put (some 65) (.slice (some ⟨gs.2.2, 0, none⟩) 65537 65537)).put (some 66) (.string KT))) #[true, true, true, true, true, true, false, false, false, false, false, false] 6 (fun (gs : Nat × Nat × Nat) W => Below w.heap.size w W) ?_ (fun key2220 => ?_)
        · rintro ⟨g0, g1, g2⟩ W hb
          simp only [Act.put, List.setIfInBounds_toArray, List.set_cons_zero, List.set_cons_succ]
          have HB := Lib.hid hb
          clear hb
          refine wpAny_ready (rs := [6]) (by kernel_rfl) (by simp) ?_
          refine ready_call2 (some 67) rfl rfl rfl 9 _ _ rfl (fun _ _ => by go_simp) #[.string KZ, .int .i64 0, .string KV, .string KT] (by kernel_rfl) ?_ AllReady.nil
          refine (kT.out _).mono ?_
          rintro e v ⟨rfl, hb⟩
          refine ⟨_, rfl, ?_⟩
          have HB := Lib.hid (Lw.go_on HB.out hb)
          clear hb
          simp only [Act.put, List.setIfInBounds_toArray, List.set_cons_zero, List.set_cons_succ]
          refine Lw.take_to (i := 7) (some 60) (.tuple #[.string ⟨#[]⟩, .int .i64 600]) rfl rfl (by kernel_rfl) (by kernel_rfl) (by kernel_rfl) (fun _ _ _ h => h) (Or.inl ⟨by rfl, fun w => by go_simp⟩) ?_
          simp only [Act.put, List.setIfInBounds_toArray, List.set_cons_zero, List.set_cons_succ]
          refine Lw.take_to (i := 8) (some 68) (.string ⟨#[]⟩) rfl rfl (by kernel_rfl) (by kernel_rfl) (by kernel_rfl) (fun _ _ _ h => h) (Or.inl ⟨by rfl, fun w => by go_simp⟩) ?_
          simp only [Act.put, List.setIfInBounds_toArray, List.set_cons_zero, List.set_cons_succ]
          refine Lw.take_to (i := 9) (some 69) (.int .i64 600) rfl rfl (by kernel_rfl) (by kernel_rfl) (by kernel_rfl) (fun _ _ _ h => h) (Or.inl ⟨by rfl, fun w => by go_simp⟩) ?_
          simp only [Act.put, List.setIfInBounds_toArray, List.set_cons_zero, List.set_cons_succ]
          refine Lw.take_to (i := 10) (some 14) (.string ⟨#[]⟩) rfl rfl (by kernel_rfl) (by kernel_rfl) (by kernel_rfl) (fun _ _ _ h => h) (Or.inl ⟨by rfl, fun w => by go_simp⟩) ?_
          simp only [Act.put, List.setIfInBounds_toArray, List.set_cons_zero, List.set_cons_succ]
          refine Lw.take_to (i := 11) (some 15) (.int .i64 600) rfl rfl (by kernel_rfl) (by kernel_rfl) (by kernel_rfl) (fun _ _ _ h => h) (Or.inl ⟨by rfl, fun w => by go_simp⟩) ?_
          simp only [Act.put, List.setIfInBounds_toArray, List.set_cons_zero, List.set_cons_succ]
          refine wpAny_done (by kernel_rfl) ?_ _
          have hE1 := HE1.out
          have hE2 := HE2.out
          subst hE1
          subst hE2
          go_wp2_with (go_at_call 11; refine (Lw.num_same _ _).mono ?_; rintro e u ⟨rfl, rfl⟩)
          go_ret
          exact ⟨rfl, HB.out⟩
        simp only [Act.put, List.setIfInBounds_toArray, List.set_cons_zero, List.set_cons_succ] at key2220
        have key222 := Lib.hid key2220
        clear key2220
        refine Lw.meetA (fun (gs : Nat × Nat × Nat) a => (((((a.put (some 61) (.slice (some ⟨gs.1, 0, none⟩) 32 32)).put (some 63) (.slice (some ⟨gs.2.1, 0, none⟩) 12 12)).put (some 64) (.string KV)).put (some 65) (.slice (some ⟨gs.2.2, 0, none⟩) 65537 65537)).put (some 66) (.string KT))) #[true, false, true, true, true, true, false, false, false, false, false, false] 7 (fun (gs : Nat × Nat × Nat) W => Below w.heap.size w W ∧ Lw.RowB W gs.1 32 (fun _ => 0)) ?_ (fun key1220 => ?_)
        · rintro ⟨g0, g1, g2⟩ W ⟨hb, r0⟩
          simp only [Act.put, List.setIfInBounds_toArray, List.set_cons_zero, List.set_cons_succ]
          have cv0 := hKZ.out W g0 r0
          refine wpAny_ready (rs := [1]) (by kernel_rfl) (by simp) ?_
          refine ready_one2 (some 62) rfl rfl rfl (.string KZ) W (by go_simp) ?_ AllReady.nil
          · simp only [Act.put, List.setIfInBounds_toArray, List.set_cons_zero, List.set_cons_succ]
            exact key222.out (g0, g1, g2) _ (hb)
        simp only [Act.put, List.setIfInBounds_toArray, List.set_cons_zero, List.set_cons_succ] at key1220
        have key122 := Lib.hid key1220
        clear key1220
        refine Lw.meetA (fun (gs : Nat × Nat × Nat) a => (((((a.put (some 61) (.slice (some ⟨gs.1, 0, none⟩) 32 32)).put (some 62) (.string KZ)).put (some 63) (.slice (some ⟨gs.2.1, 0, none⟩) 12 12)).put (some 65) (.slice (some ⟨gs.2.2, 0, none⟩) 65537 65537)).put (some 66) (.string KT))) #[true, true, true, false, true, true, false, false, false, false, false, false] 7 (fun (gs : Nat × Nat × Nat) W => Below w.heap.size w W ∧ Lw.RowB W gs.2.1 12 (fun _ => 0)) ?_ (fun key2120 => ?_)
        · rintro ⟨g0, g1, g2⟩ W ⟨hb, r1⟩
          simp only [Act.put, List.setIfInBounds_toArray, List.set_cons_zero, List.set_cons_succ]
          have cv1 := hKV.out W g1 r1
          refine wpAny_ready (rs := [3]) (by kernel_rfl) (by simp) ?_
          refine ready_one2 (some 64) rfl rfl rfl (.string KV) W (by go_simp) ?_ AllReady.nil
          · simp only [Act.put, List.setIfInBounds_toArray, List.set_cons_zero, List.set_cons_succ]
            exact key222.out (g0, g1, g2) _ (hb)
        simp only [Act.put, List.setIfInBounds_toArray, List.set_cons_zero, List.set_cons_succ] at key2120
        have key212 := Lib.hid key2120
        clear key2120
        refine Lw.meetA (fun (gs : Nat × Nat × Nat) a => (((((a.put (some 61) (.slice (some ⟨gs.1, 0, none⟩) 32 32)).put (some 62) (.string KZ)).put (some 63) (.slice (some ⟨gs.2.1, 0, none⟩) 12 12)).put (some 64) (.string KV)).put (some 65) (.slice (some ⟨gs.2.2, 0, none⟩) 65537 65537))) #[true, true, true, true, true, false, false, false, false, false, false, false] 7 (fun (gs : Nat × Nat × Nat) W => Below w.heap.size w W ∧ Lw.RowB W gs.2.2 65537 (fun _ => 0)) ?_ (fun key2210 => ?_)
        · rintro ⟨g0, g1, g2⟩ W ⟨hb, r2⟩
          simp only [Act.put, List.setIfInBounds_toArray, List.set_cons_zero, List.set_cons_succ]
          have cv2 := hKT.out W g2 r2
          refine wpAny_ready (rs := [5]) (by kernel_rfl) (by simp) ?_
          refine ready_one2 (some 66) rfl rfl rfl (.string KT) W (by go_simp) ?_ AllReady.nil
          · simp only [Act.put, List.setIfInBounds_toArray, List.set_cons_zero, List.set_cons_succ]
            exact key222.out (g0, g1, g2) _ (hb)
        simp only [Act.put, List.setIfInBounds_toArray, List.set_cons_zero, List.set_cons_succ] at key2210
        have key221 := Lib.hid key2210
        clear key2210
        refine Lw.meetA (fun (gs : Nat × Nat × Nat) a => ((((a.put (some 63) (.slice (some ⟨gs.2.1, 0, none⟩) 12 12)).put (some 64) (.string KV)).put (some 65) (.slice (some ⟨gs.2.2, 0, none⟩) 65537 65537)).put (some 66) (.string KT))) #[false, false, true, true, true, true, false, false, false, false, false, false] 8 (fun (gs : Nat × Nat × Nat) W => Below w.heap.size w W) ?_ (fun key0220 => ?_)
        · rintro ⟨g0, g1, g2⟩ W hb
          simp only [Act.put, List.setIfInBounds_toArray, List.set_cons_zero, List.set_cons_succ]
          refine wpAny_ready (rs := [0]) (by kernel_rfl) (by simp) ?_
          refine ready_one2 (some 61) rfl rfl rfl (.slice (some ⟨W.heap.size, 0, none⟩) 32 32) (W.alloc (.cells MZ 5)) (by go_simp) ?_ AllReady.nil
          · simp only [Act.put, List.setIfInBounds_toArray, List.set_cons_zero, List.set_cons_succ]
            exact key122.out (W.heap.size, g1, g2) _ (⟨hb.alloc hb.size _, Lw.rowB_new W MZ 32 HMZ.out.1 HMZ.out.2⟩)
        simp only [Act.put, List.setIfInBounds_toArray, List.set_cons_zero, List.set_cons_succ] at key0220
        have key022 := Lib.hid key0220
        clear key0220
        refine Lw.meetA (fun (gs : Nat × Nat × Nat) a => ((((a.put (some 61) (.slice (some ⟨gs.1, 0, none⟩) 32 32)).put (some 63) (.slice (some ⟨gs.2.1, 0, none⟩) 12 12)).put (some 65) (.slice (some ⟨gs.2.2, 0, none⟩) 65537 65537)).put (some 66) (.string KT))) #[true, false, true, false, true, true, false, false, false, false, false, false] 8 (fun (gs : Nat × Nat × Nat) W => Below w.heap.size w W ∧ Lw.RowB W gs.1 32 (fun _ => 0) ∧ Lw.RowB W gs.2.1 12 (fun _ => 0)) ?_ (fun key1120 => ?_)
        · rintro ⟨g0, g1, g2⟩ W ⟨hb, r0, r1⟩
          simp only [Act.put, List.setIfInBounds_toArray, List.set_cons_zero, List.set_cons_succ]
          have cv0 := hKZ.out W g0 r0
          have cv1 := hKV.out W g1 r1
          refine wpAny_ready (rs := [1, 3]) (by kernel_rfl) (by simp) ?_
          refine ready_one2 (some 62) rfl rfl rfl (.string KZ) W (by go_simp) ?_ (ready_one2 (some 64) rfl rfl rfl (.string KV) W (by go_simp) ?_ AllReady.nil)
          · simp only [Act.put, List.setIfInBounds_toArray, List.set_cons_zero, List.set_cons_succ]
            exact key212.out (g0, g1, g2) _ (⟨hb, r1⟩)
          · simp only [Act.put, List.setIfInBounds_toArray, List.set_cons_zero, List.set_cons_succ]
            exact key122.out (g0, g1, g2) _ (⟨hb, r0⟩)
        simp only [Act.put, List.setIfInBounds_toArray, List.set_cons_zero, List.set_cons_succ] at key1120
        have key112 := Lib.hid key1120
        clear key1120
        refine Lw.meetA (fun (gs : Nat × Nat × Nat) a => ((((a.put (some 61) (.slice (some ⟨gs.1, 0, none⟩) 32 32)).put (some 63) (.slice (some ⟨gs.2.1, 0, none⟩) 12 12)).put (some 64) (.string KV)).put (some 65) (.slice (some ⟨gs.2.2, 0, none⟩) 65537 65537))) #[true, false, true, true, true, false, false, false, false, false, false, false] 8 (fun (gs : Nat × Nat × Nat) W => Below w.heap.size w W ∧ Lw.RowB W gs.1 32 (fun _ => 0) ∧ Lw.RowB W gs.2.2 65537 (fun _ => 0)) ?_ (fun key1210 => ?_)
        · rintro ⟨g0, g1, g2⟩ W ⟨hb, r0, r2⟩
          simp only [Act.put, List.setIfInBounds_toArray, List.set_cons_zero, List.set_cons_succ]
          have cv0 := hKZ.out W g0 r0
          have cv2 := hKT.out W g2 r2
          refine wpAny_ready (rs := [1, 5]) (by kernel_rfl) (by simp) ?_
          refine ready_one2 (some 62) rfl rfl rfl (.string KZ) W (by go_simp) ?_ (ready_one2 (some 66) rfl rfl rfl (.string KT) W (by go_simp) ?_ AllReady.nil)
          · simp only [Act.put, List.setIfInBounds_toArray, List.set_cons_zero, List.set_cons_succ]
            exact key221.out (g0, g1, g2) _ (⟨hb, r2⟩)
          · simp only [Act.put, List.setIfInBounds_toArray, List.set_cons_zero, List.set_cons_succ]
            exact key122.out (g0, g1, g2) _ (⟨hb, r0⟩)
        simp only [Act.put, List.setIfInBounds_toArray, List.set_cons_zero, List.set_cons_succ] at key1210
        have key121 := Lib.hid key1210
        clear key1210
        refine Lw.meetA (fun (gs : Nat × Nat × Nat) a => ((((a.put (some 61) (.slice (some ⟨gs.1, 0, none⟩) 32 32)).put (some 62) (.string KZ)).put (some 65) (.slice (some ⟨gs.2.2, 0, none⟩) 65537 65537)).put (some 66) (.string KT))) #[true, true, false, false, true, true, false, false, false, false, false, false] 8 (fun (gs : Nat × Nat × Nat) W => Below w.heap.size w W) ?_ (fun key2020 => ?_)
        · rintro ⟨g0, g1, g2⟩ W hb
          simp only [Act.put, List.setIfInBounds_toArray, List.set_cons_zero, List.set_cons_succ]
          refine wpAny_ready (rs := [2]) (by kernel_rfl) (by simp) ?_
          refine ready_one2 (some 63) rfl rfl rfl (.slice (some ⟨W.heap.size, 0, none⟩) 12 12) (W.alloc (.cells MV 5)) (by go_simp) ?_ AllReady.nil
          · simp only [Act.put, List.setIfInBounds_toArray, List.set_cons_zero, List.set_cons_succ]
            exact key212.out (g0, W.heap.size, g2) _ (⟨hb.alloc hb.size _, Lw.rowB_new W MV 12 HMV.out.1 HMV.out.2⟩)
        simp only [Act.put, List.setIfInBounds_toArray, List.set_cons_zero, List.set_cons_succ] at key2020
        have key202 := Lib.hid key2020
        clear key2020
        refine Lw.meetA (fun (gs : Nat × Nat × Nat) a => ((((a.put (some 61) (.slice (some ⟨gs.1, 0, none⟩) 32 32)).put (some 62) (.string KZ)).put (some 63) (.slice (some ⟨gs.2.1, 0, none⟩) 12 12)).put (some 65) (.slice (some ⟨gs.2.2, 0, none⟩) 65537 65537))) #[true, true, true, false, true, false, false, false, false, false, false, false] 8 (fun (gs : Nat × Nat × Nat) W => Below w.heap.size w W ∧ Lw.RowB W gs.2.1 12 (fun _ => 0) ∧ Lw.RowB W gs.2.2 65537 (fun _ => 0)) ?_ (fun key2110 => ?_)
        · rintro ⟨g0, g1, g2⟩ W ⟨hb, r1, r2⟩
          simp only [Act.put, List.setIfInBounds_toArray, List.set_cons_zero, List.set_cons_succ]
          have cv1 := hKV.out W g1 r1
          have cv2 := hKT.out W g2 r2
          refine wpAny_ready (rs := [3, 5]) (by kernel_rfl) (by simp) ?_
          refine ready_one2 (some 64) rfl rfl rfl (.string KV) W (by go_simp) ?_ (ready_one2 (some 66) rfl rfl rfl (.string KT) W (by go_simp) ?_ AllReady.nil)
          · simp only [Act.put, List.setIfInBounds_toArray, List.set_cons_zero, List.set_cons_succ]
            exact key221.out (g0, g1, g2) _ (⟨hb, r2⟩)
          · simp only [Act.put, List.setIfInBounds_toArray, List.set_cons_zero, List.set_cons_succ]
            exact key212.out (g0, g1, g2) _ (⟨hb, r1⟩)
        simp only [Act.put, List.setIfInBounds_toArray, List.set_cons_zero, List.set_cons_succ] at key2110
        have key211 := Lib.hid key2110
        clear key2110
        refine Lw.meetA (fun (gs : Nat × Nat × Nat) a => ((((a.put (some 61) (.slice (some ⟨gs.1, 0, none⟩) 32 32)).put (some 62) (.string KZ)).put (some 63) (.slice (some ⟨gs.2.1, 0, none⟩) 12 12)).put (some 64) (.string KV))) #[true, true, true, true, false, false, false, false, false, false, false, false] 8 (fun (gs : Nat × Nat × Nat) W => Below w.heap.size w W) ?_ (fun key2200 => ?_)
        · rintro ⟨g0, g1, g2⟩ W hb
          simp only [Act.put, List.setIfInBounds_toArray, List.set_cons_zero, List.set_cons_succ]
          refine wpAny_ready (rs := [4]) (by kernel_rfl) (by simp) ?_
          refine ready_one2 (some 65) rfl rfl rfl (.slice (some ⟨W.heap.size, 0, none⟩) 65537 65537) (W.alloc (.cells MT 5)) (by go_simp) ?_ AllReady.nil
          · simp only [Act.put, List.setIfInBounds_toArray, List.set_cons_zero, List.set_cons_succ]
            exact key221.out (g0, g1, W.heap.size) _ (⟨hb.alloc hb.size _, Lw.rowB_new W MT 65537 HMT.out.1 HMT.out.2⟩)
        simp only [Act.put, List.setIfInBounds_toArray, List.set_cons_zero, List.set_cons_succ] at key2200
        have key220 := Lib.hid key2200
        clear key2200
        refine Lw.meetA (fun (gs : Nat × Nat × Nat) a => (((a.put (some 63) (.slice (some ⟨gs.2.1, 0, none⟩) 12 12)).put (some 65) (.slice (some ⟨gs.2.2, 0, none⟩) 65537 65537)).put (some 66) (.string KT))) #[false, false, true, false, true, true, false, false, false, false, false, false] 9 (fun (gs : Nat × Nat × Nat) W => Below w.heap.size w W ∧ Lw.RowB W gs.2.1 12 (fun _ => 0)) ?_ (fun key0120 => ?_)
        · rintro ⟨g0, g1, g2⟩ W ⟨hb, r1⟩
          simp only [Act.put, List.setIfInBounds_toArray, List.set_cons_zero, List.set_cons_succ]
          have cv1 := hKV.out W g1 r1
          refine wpAny_ready (rs := [0, 3]) (by kernel_rfl) (by simp) ?_
          refine ready_one2 (some 61) rfl rfl rfl (.slice (some ⟨W.heap.size, 0, none⟩) 32 32) (W.alloc (.cells MZ 5)) (by go_simp) ?_ (ready_one2 (some 64) rfl rfl rfl (.string KV) W (by go_simp) ?_ AllReady.nil)
          · simp only [Act.put, List.setIfInBounds_toArray, List.set_cons_zero, List.set_cons_succ]
            exact key112.out (W.heap.size, g1, g2) _ (⟨hb.alloc hb.size _, Lw.rowB_new W MZ 32 HMZ.out.1 HMZ.out.2, World.rowIs.alloc r1 _⟩)
          · simp only [Act.put, List.setIfInBounds_toArray, List.set_cons_zero, List.set_cons_succ]
            exact key022.out (0, g1, g2) _ (hb)
        simp only [Act.put, List.setIfInBounds_toArray, List.set_cons_zero, List.set_cons_succ] at key0120
        have key012 := Lib.hid key0120
        clear key0120
        refine Lw.meetA (fun (gs : Nat × Nat × Nat) a => (((a.put (some 63) (.slice (some ⟨gs.2.1, 0, none⟩) 12 12)).put (some 64) (.string KV)).put (some 65) (.slice (some ⟨gs.2.2, 0, none⟩) 65537 65537))) #[false, false, true, true, true, false, false, false, false, false, false, false] 9 (fun (gs : Nat × Nat × Nat) W => Below w.heap.size w W ∧ Lw.RowB W gs.2.2 65537 (fun _ => 0)) ?_ (fun key0210 => ?_)
        · rintro ⟨g0, g1, g2⟩ W ⟨hb, r2⟩
          simp only [Act.put, List.setIfInBounds_toArray, List.set_cons_zero, List.set_cons_succ]
          have cv2 := hKT.out W g2 r2
          refine wpAny_ready (rs := [0, 5]) (by kernel_rfl) (by simp) ?_
          refine ready_one2 (some 61) rfl rfl rfl (.slice (some ⟨W.heap.size, 0, none⟩) 32 32) (W.alloc (.cells MZ 5)) (by go_simp) ?_ (ready_one2 (some 66) rfl rfl rfl (.string KT) W (by go_simp) ?_ AllReady.nil)
          · simp only [Act.put, List.setIfInBounds_toArray, List.set_cons_zero, List.set_cons_succ]
            exact key121.out (W.heap.size, g1, g2) _ (⟨hb.alloc hb.size _, Lw.rowB_new W MZ 32 HMZ.out.1 HMZ.out.2, World.rowIs.alloc r2 _⟩)
          · simp only [Act.put, List.setIfInBounds_toArray, List.set_cons_zero, List.set_cons_succ]
            exact key022.out (0, g1, g2) _ (hb)
        simp only [Act.put, List.setIfInBounds_toArray, List.set_cons_zero, List.set_cons_succ] at key0210
        have key021 := Lib.hid key0210
        clear key0210
        refine Lw.meetA (fun (gs : Nat × Nat × Nat) a => (((a.put (some 61) (.slice (some ⟨gs.1, 0, none⟩) 32 32)).put (some 65) (.slice (some ⟨gs.2.2, 0, none⟩) 65537 65537)).put (some 66) (.string KT))) #[true, false, false, false, true, true, false, false, false, false, false, false] 9 (fun (gs : Nat × Nat × Nat) W => Below w.heap.size w W ∧ Lw.RowB W gs.1 32 (fun _ => 0)) ?_ (fun key1020 => ?_)
        · rintro ⟨g0, g1, g2⟩ W ⟨hb, r0⟩
          simp only [Act.put, List.setIfInBounds_toArray, List.set_cons_zero, List.set_cons_succ]
          have cv0 := hKZ.out W g0 r0
          refine wpAny_ready (rs := [1, 2]) (by kernel_rfl) (by simp) ?_
          refine ready_one2 (some 62) rfl rfl rfl (.string KZ) W (by go_simp) ?_ (ready_one2 (some 63) rfl rfl rfl (.slice (some ⟨W.heap.size, 0, none⟩) 12 12) (W.alloc (.cells MV 5)) (by go_simp) ?_ AllReady.nil)
          · simp only [Act.put, List.setIfInBounds_toArray, List.set_cons_zero, List.set_cons_succ]
            exact key202.out (g0, 0, g2) _ (hb)
          · simp only [Act.put, List.setIfInBounds_toArray, List.set_cons_zero, List.set_cons_succ]
            exact key112.out (g0, W.heap.size, g2) _ (⟨hb.alloc hb.size _, World.rowIs.alloc r0 _, Lw.rowB_new W MV 12 HMV.out.1 HMV.out.2⟩)
        simp only [Act.put, List.setIfInBounds_toArray, List.set_cons_zero, List.set_cons_succ] at key1020
        have key102 := Lib.hid key1020
        clear key1020
        refine Lw.meetA (fun (gs : Nat × Nat × Nat) a => (((a.put (some 61) (.slice (some ⟨gs.1, 0, none⟩) 32 32)).put (some 63) (.slice (some ⟨gs.2.1, 0, none⟩) 12 12)).put (some 65) (.slice (some ⟨gs.2.2, 0, none⟩) 65537 65537))) #[true, false, true, false, true, false, false, false, false, false, false, false] 9 (fun (gs : Nat × Nat × Nat) W => Below w.heap.size w W ∧ Lw.RowB W gs.1 32 (fun _ => 0) ∧ Lw.RowB W gs.2.1 12 (fun _ => 0) ∧ Lw.RowB W gs.2.2 65537 (fun _ => 0)) ?_ (fun key1110 => ?_)
        · rintro ⟨g0, g1, g2⟩ W ⟨hb, r0, r1, r2⟩
          simp only [Act.put, List.setIfInBounds_toArray, List.set_cons_zero, List.set_cons_succ]
          have cv0 := hKZ.out W g0 r0
          have cv1 := hKV.out W g1 r1
          have cv2 := hKT.out W g2 r2
          refine wpAny_ready (rs := [1, 3, 5]) (by kernel_rfl) (by simp) ?_
          refine ready_one2 (some 62) rfl rfl rfl (.string KZ) W (by go_simp) ?_ (ready_one2 (some 64) rfl rfl rfl (.string KV) W (by go_simp) ?_ (ready_one2 (some 66) rfl rfl rfl (.string KT) W (by go_simp) ?_ AllReady.nil))
          · simp only [Act.put, List.setIfInBounds_toArray, List.set_cons_zero, List.set_cons_succ]
            exact key211.out (g0, g1, g2) _ (⟨hb, r1, r2⟩)
          · simp only [Act.put, List.setIfInBounds_toArray, List.set_cons_zero, List.set_cons_succ]
            exact key121.out (g0, g1, g2) _ (⟨hb, r0, r2⟩)
          · simp only [Act.put, List.setIfInBounds_toArray, List.set_cons_zero, List.set_cons_succ]
            exact key112.out (g0, g1, g2) _ (⟨hb, r0, r1⟩)
        simp only [Act.put, List.setIfInBounds_toArray, List.set_cons_zero, List.set_cons_succ] at key1110
        have key111 := Lib.hid key1110
        clear key1110
        refine Lw.meetA (fun (gs : Nat × Nat × Nat) a => (((a.put (some 61) (.slice (some ⟨gs.1, 0, none⟩) 32 32)).put (some 63) (.slice (some ⟨gs.2.1, 0, none⟩) 12 12)).put (some 64) (.string KV))) #[true, false, true, true, false, false, false, false, false, false, false, false] 9 (fun (gs : Nat × Nat × Nat) W => Below w.heap.size w W ∧ Lw.RowB W gs.1 32 (fun _ => 0)) ?_ (fun key1200 => ?_)
        · rintro ⟨g0, g1, g2⟩ W ⟨hb, r0⟩
          simp only [Act.put, List.setIfInBounds_toArray, List.set_cons_zero, List.set_cons_succ]
          have cv0 := hKZ.out W g0 r0
          refine wpAny_ready (rs := [1, 4]) (by kernel_rfl) (by simp) ?_
          refine ready_one2 (some 62) rfl rfl rfl (.string KZ) W (by go_simp) ?_ (ready_one2 (some 65) rfl rfl rfl (.slice (some ⟨W.heap.size, 0, none⟩) 65537 65537) (W.alloc (.cells MT 5)) (by go_simp) ?_ AllReady.nil)
          · simp only [Act.put, List.setIfInBounds_toArray, List.set_cons_zero, List.set_cons_succ]
            exact key220.out (g0, g1, 0) _ (hb)
          · simp only [Act.put, List.setIfInBounds_toArray, List.set_cons_zero, List.set_cons_succ]
            exact key121.out (g0, g1, W.heap.size) _ (⟨hb.alloc hb.size _, World.rowIs.alloc r0 _, Lw.rowB_new W MT 65537 HMT.out.1 HMT.out.2⟩)
        simp only [Act.put, List.setIfInBounds_toArray, List.set_cons_zero, List.set_cons_succ] at key1200
        have key120 := Lib.hid key1200
        clear key1200
        refine Lw.meetA (fun (gs : Nat × Nat × Nat) a => (((a.put (some 61) (.slice (some ⟨gs.1, 0, none⟩) 32 32)).put (some 62) (.string KZ)).put (some 65) (.slice (some ⟨gs.2.2, 0, none⟩) 65537 65537))) #[true, true, false, false, true, false, false, false, false, false, false, false] 9 (fun (gs : Nat × Nat × Nat) W => Below w.heap.size w W ∧ Lw.RowB W gs.2.2 65537 (fun _ => 0)) ?_ (fun key2010 => ?_)
        · rintro ⟨g0, g1, g2⟩ W ⟨hb, r2⟩
          simp only [Act.put, List.setIfInBounds_toArray, List.set_cons_zero, List.set_cons_succ]
          have cv2 := hKT.out W g2 r2
          refine wpAny_ready (rs := [2, 5]) (by kernel_rfl) (by simp) ?_
          refine ready_one2 (some 63) rfl rfl rfl (.slice (some ⟨W.heap.size, 0, none⟩) 12 12) (W.alloc (.cells MV 5)) (by go_simp) ?_ (ready_one2 (some 66) rfl rfl rfl (.string KT) W (by go_simp) ?_ AllReady.nil)
          · simp only [Act.put, List.setIfInBounds_toArray, List.set_cons_zero, List.set_cons_succ]
            exact key211.out (g0, W.heap.size, g2) _ (⟨hb.alloc hb.size _, Lw.rowB_new W MV 12 HMV.out.1 HMV.out.2, World.rowIs.alloc r2 _⟩)
          · simp only [Act.put, List.setIfInBounds_toArray, List.set_cons_zero, List.set_cons_succ]
            exact key202.out (g0, 0, g2) _ (hb)
        simp only [Act.put, List.setIfInBounds_toArray, List.set_cons_zero, List.set_cons_succ] at key2010
        have key201 := Lib.hid key2010
        clear key2010
        refine Lw.meetA (fun (gs : Nat × Nat × Nat) a => (((a.put (some 61) (.slice (some ⟨gs.1, 0, none⟩) 32 32)).put (some 62) (.string KZ)).put (some 63) (.slice (some ⟨gs.2.1, 0, none⟩) 12 12))) #[true, true, true, false, false, false, false, false, false, false, false, false] 9 (fun (gs : Nat × Nat × Nat) W => Below w.heap.size w W ∧ Lw.RowB W gs.2.1 12 (fun _ => 0)) ?_ (fun key2100 => ?_)
        · rintro ⟨g0, g1, g2⟩ W ⟨hb, r1⟩
          simp only [Act.put, List.setIfInBounds_toArray, List.set_cons_zero, List.set_cons_succ]
          have cv1 := hKV.out W g1 r1
          refine wpAny_ready (rs := [3, 4]) (by kernel_rfl) (by simp) ?_
          refine ready_one2 (some 64) rfl rfl rfl (.string KV) W (by go_simp) ?_ (ready_one2 (some 65) rfl rfl rfl (.slice (some ⟨W.heap.size, 0, none⟩) 65537 65537) (W.alloc (.cells MT 5)) (by go_simp) ?_ AllReady.nil)
          · simp only [Act.put, List.setIfInBounds_toArray, List.set_cons_zero, List.set_cons_succ]
            exact key220.out (g0, g1, 0) _ (hb)
          · simp only [Act.put, List.setIfInBounds_toArray, List.set_cons_zero, List.set_cons_succ]
            exact key211.out (g0, g1, W.heap.size) _ (⟨hb.alloc hb.size _, World.rowIs.alloc r1 _, Lw.rowB_new W MT 65537 HMT.out.1 HMT.out.2⟩)
        simp only [Act.put, List.setIfInBounds_toArray, List.set_cons_zero, List.set_cons_succ] at key2100
        have key210 := Lib.hid key2100
        clear key2100
        refine Lw.meetA (fun (gs : Nat × Nat × Nat) a => ((a.put (some 65) (.slice (some ⟨gs.2.2, 0, none⟩) 65537 65537)).put (some 66) (.string KT))) #[false, false, false, false, true, true, false, false, false, false, false, false] 10 (fun (gs : Nat × Nat × Nat) W => Below w.heap.size w W) ?_ (fun key0020 => ?_)
        · rintro ⟨g0, g1, g2⟩ W hb
          simp only [Act.put, List.setIfInBounds_toArray, List.set_cons_zero, List.set_cons_succ]
          refine wpAny_ready (rs := [0, 2]) (by kernel_rfl) (by simp) ?_
          refine ready_one2 (some 61) rfl rfl rfl (.slice (some ⟨W.heap.size, 0, none⟩) 32 32) (W.alloc (.cells MZ 5)) (by go_simp) ?_ (ready_one2 (some 63) rfl rfl rfl (.slice (some ⟨W.heap.size, 0, none⟩) 12 12) (W.alloc (.cells MV 5)) (by go_simp) ?_ AllReady.nil)
          · simp only [Act.put, List.setIfInBounds_toArray, List.set_cons_zero, List.set_cons_succ]
            exact key102.out (W.heap.size, 0, g2) _ (⟨hb.alloc hb.size _, Lw.rowB_new W MZ 32 HMZ.out.1 HMZ.out.2⟩)
          · simp only [Act.put, List.setIfInBounds_toArray, List.set_cons_zero, List.set_cons_succ]
            exact key012.out (0, W.heap.size, g2) _ (⟨hb.alloc hb.size _, Lw.rowB_new W MV 12 HMV.out.1 HMV.out.2⟩)
        simp only [Act.put, List.setIfInBounds_toArray, List.set_cons_zero, List.set_cons_succ] at key0020
        have key002 := Lib.hid key0020
        clear key0020
        refine Lw.meetA (fun (gs : Nat × Nat × Nat) a => ((a.put (some 63) (.slice (some ⟨gs.2.1, 0, none⟩) 12 12)).put (some 65) (.slice (some ⟨gs.2.2, 0, none⟩) 65537 65537))) #[false, false, true, false, true, false, false, false, false, false, false, false] 10 (fun (gs : Nat × Nat × Nat) W => Below w.heap.size w W ∧ Lw.RowB W gs.2.1 12 (fun _ => 0) ∧ Lw.RowB W gs.2.2 65537 (fun _ => 0)) ?_ (fun key0110 => ?_)
        · rintro ⟨g0, g1, g2⟩ W ⟨hb, r1, r2⟩
          simp only [Act.put, List.setIfInBounds_toArray, List.set_cons_zero, List.set_cons_succ]
          have cv1 := hKV.out W g1 r1
          have cv2 := hKT.out W g2 r2
          refine wpAny_ready (rs := [0, 3, 5]) (by kernel_rfl) (by simp) ?_
          refine ready_one2 (some 61) rfl rfl rfl (.slice (some ⟨W.heap.size, 0, none⟩) 32 32) (W.alloc (.cells MZ 5)) (by go_simp) ?_ (ready_one2 (some 64) rfl rfl rfl (.string KV) W (by go_simp) ?_ (ready_one2 (some 66) rfl rfl rfl (.string KT) W (by go_simp) ?_ AllReady.nil))
          · simp only [Act.put, List.setIfInBounds_toArray, List.set_cons_zero, List.set_cons_succ]
            exact key111.out (W.heap.size, g1, g2) _ (⟨hb.alloc hb.size _, Lw.rowB_new W MZ 32 HMZ.out.1 HMZ.out.2, World.rowIs.alloc r1 _, World.rowIs.alloc r2 _⟩)
          · simp only [Act.put, List.setIfInBounds_toArray, List.set_cons_zero, List.set_cons_succ]
            exact key021.out (0, g1, g2) _ (⟨hb, r2⟩)
          · simp only [Act.put, List.setIfInBounds_toArray, List.set_cons_zero, List.set_cons_succ]
            exact key012.out (0, g1, g2) _ (⟨hb, r1⟩)
        simp only [Act.put, List.setIfInBounds_toArray, List.set_cons_zero, List.set_cons_succ] at key0110
        have key011 := Lib.hid key0110
        clear key0110
        refine Lw.meetA (fun (gs : Nat × Nat × Nat) a => ((a.put (some 63) (.slice (some ⟨gs.2.1, 0, none⟩) 12 12)).put (some 64) (.string KV))) #[false, false, true, true, false, false, false, false, false, false, false, false] 10 (fun (gs : Nat × Nat × Nat) W => Below w.heap.size w W) ?_ (fun key0200 => ?_)
        · rintro ⟨g0, g1, g2⟩ W hb
          simp only [Act.put, List.setIfInBounds_toArray, List.set_cons_zero, List.set_cons_succ]
          refine wpAny_ready (rs := [0, 4]) (by kernel_rfl) (by simp) ?_
          refine ready_one2 (some 61) rfl rfl rfl (.slice (some ⟨W.heap.size, 0, none⟩) 32 32) (W.alloc (.cells MZ 5)) (by go_simp) ?_ (ready_one2 (some 65) rfl rfl rfl (.slice (some ⟨W.heap.size, 0, none⟩) 65537 65537) (W.alloc (.cells MT 5)) (by go_simp) ?_ AllReady.nil)
          · simp only [Act.put, List.setIfInBounds_toArray, List.set_cons_zero, List.set_cons_succ]
            exact key120.out (W.heap.size, g1, 0) _ (⟨hb.alloc hb.size _, Lw.rowB_new W MZ 32 HMZ.out.1 HMZ.out.2⟩)
          · simp only [Act.put, List.setIfInBounds_toArray, List.set_cons_zero, List.set_cons_succ]
            exact key021.out (0, g1, W.heap.size) _ (⟨hb.alloc hb.size _, Lw.rowB_new W MT 65537 HMT.out.1 HMT.out.2⟩)
        simp only [Act.put, List.setIfInBounds_toArray, List.set_cons_zero, List.set_cons_succ] at key0200
        have key020 := Lib.hid key0200
        clear key0200
        refine Lw.meetA (fun (gs : Nat × Nat × Nat) a => ((a.put (some 61) (.slice (some ⟨gs.1, 0, none⟩) 32 32)).put (some 65) (.slice (some ⟨gs.2.2, 0, none⟩) 65537 65537))) #[true, false, false, false, true, false, false, false, false, false, false, false] 10 (fun (gs : Nat × Nat × Nat) W => Below w.heap.size w W ∧ Lw.RowB W gs.1 32 (fun _ => 0) ∧ Lw.RowB W gs.2.2 65537 (fun _ => 0)) ?_ (fun key1010 => ?_)
        · rintro ⟨g0, g1, g2⟩ W ⟨hb, r0, r2⟩
          simp only [Act.put, List.setIfInBounds_toArray, List.set_cons_zero, List.set_cons_succ]
          have cv0 := hKZ.out W g0 r0
          have cv2 := hKT.out W g2 r2
          refine wpAny_ready (rs := [1, 2, 5]) (by kernel_rfl) (by simp) ?_
          refine ready_one2 (some 62) rfl rfl rfl (.string KZ) W (by go_simp) ?_ (ready_one2 (some 63) rfl rfl rfl (.slice (some ⟨W.heap.size, 0, none⟩) 12 12) (W.alloc (.cells MV 5)) (by go_simp) ?_ (ready_one2 (some 66) rfl rfl rfl (.string KT) W (by go_simp) ?_ AllReady.nil))
          · simp only [Act.put, List.setIfInBounds_toArray, List.set_cons_zero, List.set_cons_succ]
            exact key201.out (g0, 0, g2) _ (⟨hb, r2⟩)
          · simp only [Act.put, List.setIfInBounds_toArray, List.set_cons_zero, List.set_cons_succ]
            exact key111.out (g0, W.heap.size, g2) _ (⟨hb.alloc hb.size _, World.rowIs.alloc r0 _, Lw.rowB_new W MV 12 HMV.out.1 HMV.out.2, World.rowIs.alloc r2 _⟩)
          · simp only [Act.put, List.setIfInBounds_toArray, List.set_cons_zero, List.set_cons_succ]
            exact key102.out (g0, 0, g2) _ (⟨hb, r0⟩)
        simp only [Act.put, List.setIfInBounds_toArray, List.set_cons_zero, List.set_cons_succ] at key1010
        have key101 := Lib.hid key1010
        clear key1010
        refine Lw.meetA (fun (gs : Nat × Nat × Nat) a => ((a.put (some 61) (.slice (some ⟨gs.1, 0, none⟩) 32 32)).put (some 63) (.slice (some ⟨gs.2.1, 0, none⟩) 12 12))) #[true, false, true, false, false, false, false, false, false, false, false, false] 10 (fun (gs : Nat × Nat × Nat) W => Below w.heap.size w W ∧ Lw.RowB W gs.1 32 (fun _ => 0) ∧ Lw.RowB W gs.2.1 12 (fun _ => 0)) ?_ (fun key1100 => ?_)
        · rintro ⟨g0, g1, g2⟩ W ⟨hb, r0, r1⟩
          simp only [Act.put, List.setIfInBounds_toArray, List.set_cons_zero, List.set_cons_succ]
          have cv0 := hKZ.out W g0 r0
          have cv1 := hKV.out W g1 r1
          refine wpAny_ready (rs := [1, 3, 4]) (by kernel_rfl) (by simp) ?_
          refine ready_one2 (some 62) rfl rfl rfl (.string KZ) W (by go_simp) ?_ (ready_one2 (some 64) rfl rfl rfl (.string KV) W (by go_simp) ?_ (ready_one2 (some 65) rfl rfl rfl (.slice (some ⟨W.heap.size, 0, none⟩) 65537 65537) (W.alloc (.cells MT 5)) (by go_simp) ?_ AllReady.nil))
          · simp only [Act.put, List.setIfInBounds_toArray, List.set_cons_zero, List.set_cons_succ]
            exact key210.out (g0, g1, 0) _ (⟨hb, r1⟩)
          · simp only [Act.put, List.setIfInBounds_toArray, List.set_cons_zero, List.set_cons_succ]
            exact key120.out (g0, g1, 0) _ (⟨hb, r0⟩)
          · simp only [Act.put, List.setIfInBounds_toArray, List.set_cons_zero, List.set_cons_succ]
            exact key111.out (g0, g1, W.heap.size) _ (⟨hb.alloc hb.size _, World.rowIs.alloc r0 _, World.rowIs.alloc r1 _, Lw.rowB_new W MT 65537 HMT.out.1 HMT.out.2⟩)
        simp only [Act.put, List.setIfInBounds_toArray, List.set_cons_zero, List.set_cons_succ] at key1100
        have key110 := Lib.hid key1100
        clear key1100
        refine Lw.meetA (fun (gs : Nat × Nat × Nat) a => ((a.put (some 61) (.slice (some ⟨gs.1, 0, none⟩) 32 32)).put (some 62) (.string KZ))) #[true, true, false, false, false, false, false, false, false, false, false, false] 10 (fun (gs : Nat × Nat × Nat) W => Below w.heap.size w W) ?_ (fun key2000 => ?_)
        · rintro ⟨g0, g1, g2⟩ W hb
          simp only [Act.put, List.setIfInBounds_toArray, List.set_cons_zero, List.set_cons_succ]
          refine wpAny_ready (rs := [2, 4]) (by kernel_rfl) (by simp) ?_
          refine ready_one2 (some 63) rfl rfl rfl (.slice (some ⟨W.heap.size, 0, none⟩) 12 12) (W.alloc (.cells MV 5)) (by go_simp) ?_ (ready_one2 (some 65) rfl rfl rfl (.slice (some ⟨W.heap.size, 0, none⟩) 65537 65537) (W.alloc (.cells MT 5)) (by go_simp) ?_ AllReady.nil)
          · simp only [Act.put, List.setIfInBounds_toArray, List.set_cons_zero, List.set_cons_succ]
            exact key210.out (g0, W.heap.size, 0) _ (⟨hb.alloc hb.size _, Lw.rowB_new W MV 12 HMV.out.1 HMV.out.2⟩)
          · simp only [Act.put, List.setIfInBounds_toArray, List.set_cons_zero, List.set_cons_succ]
            exact key201.out (g0, 0, W.heap.size) _ (⟨hb.alloc hb.size _, Lw.rowB_new W MT 65537 HMT.out.1 HMT.out.2⟩)
        simp only [Act.put, List.setIfInBounds_toArray, List.set_cons_zero, List.set_cons_succ] at key2000
        have key200 := Lib.hid key2000
        clear key2000
        refine Lw.meetA (fun (gs : Nat × Nat × Nat) a => (a.put (some 65) (.slice (some ⟨gs.2.2, 0, none⟩) 65537 65537))) #[false, false, false, false, true, false, false, false, false, false, false, false] 11 (fun (gs : Nat × Nat × Nat) W => Below w.heap.size w W ∧ Lw.RowB W gs.2.2 65537 (fun _ => 0)) ?_ (fun key0010 => ?_)
        · rintro ⟨g0, g1, g2⟩ W ⟨hb, r2⟩
          simp only [Act.put, List.setIfInBounds_toArray, List.set_cons_zero, List.set_cons_succ]
          have cv2 := hKT.out W g2 r2
          refine wpAny_ready (rs := [0, 2, 5]) (by kernel_rfl) (by simp) ?_
          refine ready_one2 (some 61) rfl rfl rfl (.slice (some ⟨W.heap.size, 0, none⟩) 32 32) (W.alloc (.cells MZ 5)) (by go_simp) ?_ (ready_one2 (some 63) rfl rfl rfl (.slice (some ⟨W.heap.size, 0, none⟩) 12 12) (W.alloc (.cells MV 5)) (by go_simp) ?_ (ready_one2 (some 66) rfl rfl rfl (.string KT) W (by go_simp) ?_ AllReady.nil))
          · simp only [Act.put, List.setIfInBounds_toArray, List.set_cons_zero, List.set_cons_succ]
            exact key101.out (W.heap.size, 0, g2) _ (⟨hb.alloc hb.size _, Lw.rowB_new W MZ 32 HMZ.out.1 HMZ.out.2, World.rowIs.alloc r2 _⟩)
          · simp only [Act.put, List.setIfInBounds_toArray, List.set_cons_zero, List.set_cons_succ]
            exact key011.out (0, W.heap.size, g2) _ (⟨hb.alloc hb.size _, Lw.rowB_new W MV 12 HMV.out.1 HMV.out.2, World.rowIs.alloc r2 _⟩)
          · simp only [Act.put, List.setIfInBounds_toArray, List.set_cons_zero, List.set_cons_succ]
            exact key002.out (0, 0, g2) _ (hb)
        simp only [Act.put, List.setIfInBounds_toArray, List.set_cons_zero, List.set_cons_succ] at key0010
        have key001 := Lib.hid key0010
        clear key0010
        refine Lw.meetA (fun (gs : Nat × Nat × Nat) a => (a.put (some 63) (.slice (some ⟨gs.2.1, 0, none⟩) 12 12))) #[false, false, true, false, false, false, false, false, false, false, false, false] 11 (fun (gs : Nat × Nat × Nat) W => Below w.heap.size w W ∧ Lw.RowB W gs.2.1 12 (fun _ => 0)) ?_ (fun key0100 => ?_)
        · rintro ⟨g0, g1, g2⟩ W ⟨hb, r1⟩
          simp only [Act.put, List.setIfInBounds_toArray, List.set_cons_zero, List.set_cons_succ]
          have cv1 := hKV.out W g1 r1
          refine wpAny_ready (rs := [0, 3, 4]) (by kernel_rfl) (by simp) ?_
          refine ready_one2 (some 61) rfl rfl rfl (.slice (some ⟨W.heap.size, 0, none⟩) 32 32) (W.alloc (.cells MZ 5)) (by go_simp) ?_ (ready_one2 (some 64) rfl rfl rfl (.string KV) W (by go_simp) ?_ (ready_one2 (some 65) rfl rfl rfl (.slice (some ⟨W.heap.size, 0, none⟩) 65537 65537) (W.alloc (.cells MT 5)) (by go_simp) ?_ AllReady.nil))
          · simp only [Act.put, List.setIfInBounds_toArray, List.set_cons_zero, List.set_cons_succ]
            exact key110.out (W.heap.size, g1, 0) _ (⟨hb.alloc hb.size _, Lw.rowB_new W MZ 32 HMZ.out.1 HMZ.out.2, World.rowIs.alloc r1 _⟩)
          · simp only [Act.put, List.setIfInBounds_toArray, List.set_cons_zero, List.set_cons_succ]
            exact key020.out (0, g1, 0) _ (hb)
          · simp only [Act.put, List.setIfInBounds_toArray, List.set_cons_zero, List.set_cons_succ]
            exact key011.out (0, g1, W.heap.size) _ (⟨hb.alloc hb.size _, World.rowIs.alloc r1 _, Lw.rowB_new W MT 65537 HMT.out.1 HMT.out.2⟩)
        simp only [Act.put, List.setIfInBounds_toArray, List.set_cons_zero, List.set_cons_succ] at key0100
        have key010 := Lib.hid key0100
        clear key0100
        refine Lw.meetA (fun (gs : Nat × Nat × Nat) a => (a.put (some 61) (.slice (some ⟨gs.1, 0, none⟩) 32 32))) #[true, false, false, false, false, false, false, false, false, false, false, false] 11 (fun (gs : Nat × Nat × Nat) W => Below w.heap.size w W ∧ Lw.RowB W gs.1 32 (fun _ => 0)) ?_ (fun key1000 => ?_)
        · rintro ⟨g0, g1, g2⟩ W ⟨hb, r0⟩
          simp only [Act.put, List.setIfInBounds_toArray, List.set_cons_zero, List.set_cons_succ]
          have cv0 := hKZ.out W g0 r0
          refine wpAny_ready (rs := [1, 2, 4]) (by kernel_rfl) (by simp) ?_
          refine ready_one2 (some 62) rfl rfl rfl (.string KZ) W (by go_simp) ?_ (ready_one2 (some 63) rfl rfl rfl (.slice (some ⟨W.heap.size, 0, none⟩) 12 12) (W.alloc (.cells MV 5)) (by go_simp) ?_ (ready_one2 (some 65) rfl rfl rfl (.slice (some ⟨W.heap.size, 0, none⟩) 65537 65537) (W.alloc (.cells MT 5)) (by go_simp) ?_ AllReady.nil))
          · simp only [Act.put, List.setIfInBounds_toArray, List.set_cons_zero, List.set_cons_succ]
            exact key200.out (g0, 0, 0) _ (hb)
          · simp only [Act.put, List.setIfInBounds_toArray, List.set_cons_zero, List.set_cons_succ]
            exact key110.out (g0, W.heap.size, 0) _ (⟨hb.alloc hb.size _, World.rowIs.alloc r0 _, Lw.rowB_new W MV 12 HMV.out.1 HMV.out.2⟩)
          · simp only [Act.put, List.setIfInBounds_toArray, List.set_cons_zero, List.set_cons_succ]
            exact key101.out (g0, 0, W.heap.size) _ (⟨hb.alloc hb.size _, World.rowIs.alloc r0 _, Lw.rowB_new W MT 65537 HMT.out.1 HMT.out.2⟩)
        simp only [Act.put, List.setIfInBounds_toArray, List.set_cons_zero, List.set_cons_succ] at key1000
        have key100 := Lib.hid key1000
        clear key1000
        refine wpAny_ready (rs := [0, 2, 4]) (by kernel_rfl) (by simp) ?_
        refine ready_one2 (some 61) rfl rfl rfl (.slice (some ⟨D.heap.size, 0, none⟩) 32 32) (D.alloc (.cells MZ 5)) (by go_simp) ?_ (ready_one2 (some 63) rfl rfl rfl (.slice (some ⟨D.heap.size, 0, none⟩) 12 12) (D.alloc (.cells MV 5)) (by go_simp) ?_ (ready_one2 (some 65) rfl rfl rfl (.slice (some ⟨D.heap.size, 0, none⟩) 65537 65537) (D.alloc (.cells MT 5)) (by go_simp) ?_ AllReady.nil))
        · simp only [Act.put, List.setIfInBounds_toArray, List.set_cons_zero, List.set_cons_succ]
          exact key100.out (D.heap.size, 0, 0) _ (⟨HB.out.alloc HB.out.size _, Lw.rowB_new D MZ 32 HMZ.out.1 HMZ.out.2⟩)
        · simp only [Act.put, List.setIfInBounds_toArray, List.set_cons_zero, List.set_cons_succ]
          exact key010.out (0, D.heap.size, 0) _ (⟨HB.out.alloc HB.out.size _, Lw.rowB_new D MV 12 HMV.out.1 HMV.out.2⟩)
        · simp only [Act.put, List.setIfInBounds_toArray, List.set_cons_zero, List.set_cons_succ]
          exact key001.out (0, 0, D.heap.size) _ (⟨HB.out.alloc HB.out.size _, Lw.rowB_new D MT 65537 HMT.out.1 HMT.out.2⟩)
      simp only [Act.put, List.setIfInBounds_toArray, List.set_cons_zero, List.set_cons_succ] at key220
      have key22 := Lib.hid key220
      clear key220
      refine Lw.meetA (fun (gs : Nat × Nat) a => (((a.put (some 51) (.slice (some ⟨gs.1, 0, none⟩) x x)).put (some 55) (.slice (some ⟨gs.2, 0, none⟩) y y)).put (some 56) (.string KY))) #[true, true, false, true, true, true, true, false, false, false, false, false, false] 7 (fun (gs : Nat × Nat) W => Below w.heap.size w W ∧ Lw.RowB W gs.1 x (fun _ => 0)) ?_ (fun key120 => ?_)
      · rintro ⟨g0, g1⟩ W ⟨hb, r0⟩
        simp only [Act.put, List.setIfInBounds_toArray, List.set_cons_zero, List.set_cons_succ]
        have cv0 := hKX.out W g0 r0
        refine wpAny_ready (rs := [2]) (by kernel_rfl) (by simp) ?_
        refine ready_one2 (some 52) rfl rfl rfl (.string KX) W (by go_simp) ?_ AllReady.nil
        · simp only [Act.put, List.setIfInBounds_toArray, List.set_cons_zero, List.set_cons_succ]
          exact key22.out (g0, g1) _ (hb)
      simp only [Act.put, List.setIfInBounds_toArray, List.set_cons_zero, List.set_cons_succ] at key120
      have key12 := Lib.hid key120
      clear key120
      refine Lw.meetA (fun (gs : Nat × Nat) a => (((a.put (some 51) (.slice (some ⟨gs.1, 0, none⟩) x x)).put (some 52) (.string KX)).put (some 55) (.slice (some ⟨gs.2, 0, none⟩) y y))) #[true, true, true, true, true, true, false, false, false, false, false, false, false] 7 (fun (gs : Nat × Nat) W => Below w.heap.size w W ∧ Lw.RowB W gs.2 y (fun _ => 0)) ?_ (fun key210 => ?_)
      · rintro ⟨g0, g1⟩ W ⟨hb, r1⟩
        simp only [Act.put, List.setIfInBounds_toArray, List.set_cons_zero, List.set_cons_succ]
        have cv1 := hKY.out W g1 r1
        refine wpAny_ready (rs := [6]) (by kernel_rfl) (by simp) ?_
        refine ready_one2 (some 56) rfl rfl rfl (.string KY) W (by go_simp) ?_ AllReady.nil
        · simp only [Act.put, List.setIfInBounds_toArray, List.set_cons_zero, List.set_cons_succ]
          exact key22.out (g0, g1) _ (hb)
      simp only [Act.put, List.setIfInBounds_toArray, List.set_cons_zero, List.set_cons_succ] at key210
      have key21 := Lib.hid key210
      clear key210
      refine Lw.meetA (fun (gs : Nat × Nat) a => ((a.put (some 55) (.slice (some ⟨gs.2, 0, none⟩) y y)).put (some 56) (.string KY))) #[true, false, false, true, true, true, true, false, false, false, false, false, false] 8 (fun (gs : Nat × Nat) W => Below w.heap.size w W) ?_ (fun key020 => ?_)
      · rintro ⟨g0, g1⟩ W hb
        simp only [Act.put, List.setIfInBounds_toArray, List.set_cons_zero, List.set_cons_succ]
        refine wpAny_ready (rs := [1]) (by kernel_rfl) (by simp) ?_
        refine ready_one2 (some 51) rfl rfl rfl (.slice (some ⟨W.heap.size, 0, none⟩) x x) (W.alloc (.cells MX 5)) (by go_simp) ?_ AllReady.nil
        · simp only [Act.put, List.setIfInBounds_toArray, List.set_cons_zero, List.set_cons_succ]
          exact key12.out (W.heap.size, g1) _ (⟨hb.alloc hb.size _, Lw.rowB_new W MX x HMX.out.1 HMX.out.2⟩)
      simp only [Act.put, List.setIfInBounds_toArray, List.set_cons_zero, List.set_cons_succ] at key020
      have key02 := Lib.hid key020
      clear key020
      refine Lw.meetA (fun (gs : Nat × Nat) a => ((a.put (some 51) (.slice (some ⟨gs.1, 0, none⟩) x x)).put (some 55) (.slice (some ⟨gs.2, 0, none⟩) y y))) #[true, true, false, true, true, true, false, false, false, false, false, false, false] 8 (fun (gs : Nat × Nat) W => Below w.heap.size w W ∧ Lw.RowB W gs.1 x (fun _ => 0) ∧ Lw.RowB W gs.2 y (fun _ => 0)) ?_ (fun key110 => ?_)
      · rintro ⟨g0, g1⟩ W ⟨hb, r0, r1⟩
        simp only [Act.put, List.setIfInBounds_toArray, List.set_cons_zero, List.set_cons_succ]
        have cv0 := hKX.out W g0 r0
        have cv1 := hKY.out W g1 r1
        refine wpAny_ready (rs := [2, 6]) (by kernel_rfl) (by simp) ?_
        refine ready_one2 (some 52) rfl rfl rfl (.string KX) W (by go_simp) ?_ (ready_one2 (some 56) rfl rfl rfl (.string KY) W (by go_simp) ?_ AllReady.nil)
        · simp only [Act.put, List.setIfInBounds_toArray, List.set_cons_zero, List.set_cons_succ]
          exact key21.out (g0, g1) _ (⟨hb, r1⟩)
        · simp only [Act.put, List.setIfInBounds_toArray, List.set_cons_zero, List.set_cons_succ]
          exact key12.out (g0, g1) _ (⟨hb, r0⟩)
      simp only [Act.put, List.setIfInBounds_toArray, List.set_cons_zero, List.set_cons_succ] at key110
      have key11 := Lib.hid key110
      clear key110
      refine Lw.meetA (fun (gs : Nat × Nat) a => ((a.put (some 51) (.slice (some ⟨gs.1, 0, none⟩) x x)).put (some 52) (.string KX))) #[true, true, true, true, true, false, false, false, false, false, false, false, false] 8 (fun (gs : Nat × Nat) W => Below w.heap.size w W) ?_ (fun key200 => ?_)
      · rintro ⟨g0, g1⟩ W hb
        simp only [Act.put, List.setIfInBounds_toArray, List.set_cons_zero, List.set_cons_succ]
        refine wpAny_ready (rs := [5]) (by kernel_rfl) (by simp) ?_
        refine ready_one2 (some 55) rfl rfl rfl (.slice (some ⟨W.heap.size, 0, none⟩) y y) (W.alloc (.cells MY 5)) (by go_simp) ?_ AllReady.nil
        · simp only [Act.put, List.setIfInBounds_toArray, List.set_cons_zero, List.set_cons_succ]
          exact key21.out (g0, W.heap.size) _ (⟨hb.alloc hb.size _, Lw.rowB_new W MY y HMY.out.1 HMY.out.2⟩)
      simp only [Act.put, List.setIfInBounds_toArray, List.set_cons_zero, List.set_cons_succ] at key200
      have key20 := Lib.hid key200
      clear key200
      refine Lw.meetA (fun (gs : Nat × Nat) a => (a.put (some 55) (.slice (some ⟨gs.2, 0, none⟩) y y))) #[true, false, false, true, true, true, false, false, false, false, false, false, false] 9 (fun (gs : Nat × Nat) W => Below w.heap.size w W ∧ Lw.RowB W gs.2 y (fun _ => 0)) ?_ (fun key010 => ?_)
      · rintro ⟨g0, g1⟩ W ⟨hb, r1⟩
        simp only [Act.put, List.setIfInBounds_toArray, List.set_cons_zero, List.set_cons_succ]
        have cv1 := hKY.out W g1 r1
        refine wpAny_ready (rs := [1, 6]) (by kernel_rfl) (by simp) ?_
        refine ready_one2 (some 51) rfl rfl rfl (.slice (some ⟨W.heap.size, 0, none⟩) x x) (W.alloc (.cells MX 5)) (by go_simp) ?_ (ready_one2 (some 56) rfl rfl rfl (.string KY) W (by go_simp) ?_ AllReady.nil)
        · simp only [Act.put, List.setIfInBounds_toArray, List.set_cons_zero, List.set_cons_succ]
          exact key11.out (W.heap.size, g1) _ (⟨hb.alloc hb.size _, Lw.rowB_new W MX x HMX.out.1 HMX.out.2, World.rowIs.alloc r1 _⟩)
        · simp only [Act.put, List.setIfInBounds_toArray, List.set_cons_zero, List.set_cons_succ]
          exact key02.out (0, g1) _ (hb)
      simp only [Act.put, List.setIfInBounds_toArray, List.set_cons_zero, List.set_cons_succ] at key010
      have key01 := Lib.hid key010
      clear key010
      refine Lw.meetA (fun (gs : Nat × Nat) a => (a.put (some 51) (.slice (some ⟨gs.1, 0, none⟩) x x))) #[true, true, false, true, true, false, false, false, false, false, false, false, false] 9 (fun (gs : Nat × Nat) W => Below w.heap.size w W ∧ Lw.RowB W gs.1 x (fun _ => 0)) ?_ (fun key100 => ?_)
      · rintro ⟨g0, g1⟩ W ⟨hb, r0⟩
        simp only [Act.put, List.setIfInBounds_toArray, List.set_cons_zero, List.set_cons_succ]
        have cv0 := hKX.out W g0 r0
        refine wpAny_ready (rs := [2, 5]) (by kernel_rfl) (by simp) ?_
        refine ready_one2 (some 52) rfl rfl rfl (.string KX) W (by go_simp) ?_ (ready_one2 (some 55) rfl rfl rfl (.slice (some ⟨W.heap.size, 0, none⟩) y y) (W.alloc (.cells MY 5)) (by go_simp) ?_ AllReady.nil)
        · simp only [Act.put, List.setIfInBounds_toArray, List.set_cons_zero, List.set_cons_succ]
          exact key20.out (g0, 0) _ (hb)
        · simp only [Act.put, List.setIfInBounds_toArray, List.set_cons_zero, List.set_cons_succ]
          exact key11.out (g0, W.heap.size) _ (⟨hb.alloc hb.size _, World.rowIs.alloc r0 _, Lw.rowB_new W MY y HMY.out.1 HMY.out.2⟩)
      simp only [Act.put, List.setIfInBounds_toArray, List.set_cons_zero, List.set_cons_succ] at key100
      have key10 := Lib.hid key100
      clear key100
      refine wpAny_ready (rs := [1, 5]) (by kernel_rfl) (by simp) ?_
      refine ready_one2 (some 51) rfl rfl rfl (.slice (some ⟨D.heap.size, 0, none⟩) x x) (D.alloc (.cells MX 5)) (by go_simp) ?_ (ready_one2 (some 55) rfl rfl rfl (.slice (some ⟨D.heap.size, 0, none⟩) y y) (D.alloc (.cells MY 5)) (by go_simp) ?_ AllReady.nil)
      · simp only [Act.put, List.setIfInBounds_toArray, List.set_cons_zero, List.set_cons_succ]
        exact key10.out (D.heap.size, 0) _ (⟨HB.out.alloc HB.out.size _, Lw.rowB_new D MX x HMX.out.1 HMX.out.2⟩)
      · simp only [Act.put, List.setIfInBounds_toArray, List.set_cons_zero, List.set_cons_succ]
        exact key01.out (0, D.heap.size) _ (⟨HB.out.alloc HB.out.size _, Lw.rowB_new D MY y HMY.out.1 HMY.out.2⟩)
    simp only [Act.put, List.setIfInBounds_toArray, List.set_cons_zero, List.set_cons_succ] at key220
    have key22 := Lib.hid key220
    clear key220
    refine Lw.meetA (fun (gs : Nat × Nat) a => (((a.put (some 40) (.slice (some ⟨gs.1, 0, none⟩) x x)).put (some 44) (.slice (some ⟨gs.2, 0, none⟩) y y)).put (some 45) (.string KY))) #[true, true, false, true, true, true, true, false, false, false, false, false, false] 7 (fun (gs : Nat × Nat) W => Below w.heap.size w W ∧ Lw.RowB W gs.1 x (fun _ => 0)) ?_ (fun key120 => ?_)
    · rintro ⟨g0, g1⟩ W ⟨hb, r0⟩
      simp only [Act.put, List.setIfInBounds_toArray, List.set_cons_zero, List.set_cons_succ]
      have cv0 := hKX.out W g0 r0
      refine wpAny_ready (rs := [2]) (by kernel_rfl) (by simp) ?_
      refine ready_one2 (some 41) rfl rfl rfl (.string KX) W (by go_simp) ?_ AllReady.nil
      · simp only [Act.put, List.setIfInBounds_toArray, List.set_cons_zero, List.set_cons_succ]
        exact key22.out (g0, g1) _ (hb)
    simp only [Act.put, List.setIfInBounds_toArray, List.set_cons_zero, List.set_cons_succ] at key120
    have key12 := Lib.hid key120
    clear key120
    refine Lw.meetA (fun (gs : Nat × Nat) a => (((a.put (some 40) (.slice (some ⟨gs.1, 0, none⟩) x x)).put (some 41) (.string KX)).put (some 44) (.slice (some ⟨gs.2, 0, none⟩) y y))) #[true, true, true, true, true, true, false, false, false, false, false, false, false] 7 (fun (gs : Nat × Nat) W => Below w.heap.size w W ∧ Lw.RowB W gs.2 y (fun _ => 0)) ?_ (fun key210 => ?_)
    · rintro ⟨g0, g1⟩ W ⟨hb, r1⟩
      simp only [Act.put, List.setIfInBounds_toArray, List.set_cons_zero, List.set_cons_succ]
      have cv1 := hKY.out W g1 r1
      refine wpAny_ready (rs := [6]) (by kernel_rfl) (by simp) ?_
      refine ready_one2 (some 45) rfl rfl rfl (.string KY) W (by go_simp) ?_ AllReady.nil
      · simp only [Act.put, List.setIfInBounds_toArray, List.set_cons_zero, List.set_cons_succ]
        exact key22.out (g0, g1) _ (hb)
    simp only [Act.put, List.setIfInBounds_toArray, List.set_cons_zero, List.set_cons_succ] at key210
    have key21 := Lib.hid key210
    clear key210
    refine Lw.meetA (fun (gs : Nat × Nat) a => ((a.put (some 44) (.slice (some ⟨gs.2, 0, none⟩) y y)).put (some 45) (.string KY))) #[true, false, false, true, true, true, true, false, false, false, false, false, false] 8 (fun (gs : Nat × Nat) W => Below w.heap.size w W) ?_ (fun key020 => ?_)
    · rintro ⟨g0, g1⟩ W hb
      simp only [Act.put, List.setIfInBounds_toArray, List.set_cons_zero, List.set_cons_succ]
      refine wpAny_ready (rs := [1]) (by kernel_rfl) (by simp) ?_
      refine ready_one2 (some 40) rfl rfl rfl (.slice (some ⟨W.heap.size, 0, none⟩) x x) (W.alloc (.cells MX 5)) (by go_simp) ?_ AllReady.nil
      · simp only [Act.put, List.setIfInBounds_toArray, List.set_cons_zero, List.set_cons_succ]
        exact key12.out (W.heap.size, g1) _ (⟨hb.alloc hb.size _, Lw.rowB_new W MX x HMX.out.1 HMX.out.2⟩)
    simp only [Act.put, List.setIfInBounds_toArray, List.set_cons_zero, List.set_cons_succ] at key020
    have key02 := Lib.hid key020
    clear key020
    refine Lw.meetA (fun (gs : Nat × Nat) a => ((a.put (some 40) (.slice (some ⟨gs.1, 0, none⟩) x x)).put (some 44) (.slice (some ⟨gs.2, 0, none⟩) y y))) #[true, true, false, true, true, true, false, false, false, false, false, false, false] 8 (fun (gs : Nat × Nat) W => Below w.heap.size w W ∧ Lw.RowB W gs.1 x (fun _ => 0) ∧ Lw.RowB W gs.2 y (fun _ => 0)) ?_ (fun key110 => ?_)
    · rintro ⟨g0, g1⟩ W ⟨hb, r0, r1⟩
      simp only [Act.put, List.setIfInBounds_toArray, List.set_cons_zero, List.set_cons_succ]
      have cv0 := hKX.out W g0 r0
      have cv1 := hKY.out W g1 r1
      refine wpAny_ready (rs := [2, 6]) (by kernel_rfl) (by simp) ?_
      refine ready_one2 (some 41) rfl rfl rfl (.string KX) W (by go_simp) ?_ (ready_one2 (some 45) rfl rfl rfl (.string KY) W (by go_simp) ?_ AllReady.nil)
      · simp only [Act.put, List.setIfInBounds_toArray, List.set_cons_zero, List.set_cons_succ]
        exact key21.out (g0, g1) _ (⟨hb, r1⟩)
      · simp only [Act.put, List.setIfInBounds_toArray, List.set_cons_zero, List.set_cons_succ]
        exact key12.out (g0, g1) _ (⟨hb, r0⟩)
    simp only [Act.put, List.setIfInBounds_toArray, List.set_cons_zero, List.set_cons_succ] at key110
    have key11 := Lib.hid key110
    clear key110
    refine Lw.meetA (fun (gs : Nat × Nat) a => ((a.put (some 40) (.slice (some ⟨gs.1, 0, none⟩) x x)).put (some 41) (.string KX))) #[true, true, true, true, true, false, false, false, false, false, false, false, false] 8 (fun (gs : Nat × Nat) W => Below w.heap.size w W) ?_ (fun key200 => ?_)
    · rintro ⟨g0, g1⟩ W hb
      simp only [Act.put, List.setIfInBounds_toArray, List.set_cons_zero, List.set_cons_succ]
      refine wpAny_ready (rs := [5]) (by kernel_rfl) (by simp) ?_
      refine ready_one2 (some 44) rfl rfl rfl (.slice (some ⟨W.heap.size, 0, none⟩) y y) (W.alloc (.cells MY 5)) (by go_simp) ?_ AllReady.nil
      · simp only [Act.put, List.setIfInBounds_toArray, List.set_cons_zero, List.set_cons_succ]
        exact key21.out (g0, W.heap.size) _ (⟨hb.alloc hb.size _, Lw.rowB_new W MY y HMY.out.1 HMY.out.2⟩)
    simp only [Act.put, List.setIfInBounds_toArray, List.set_cons_zero, List.set_cons_succ] at key200
    have key20 := Lib.hid key200
    clear key200
    refine Lw.meetA (fun (gs : Nat × Nat) a => (a.put (some 44) (.slice (some ⟨gs.2, 0, none⟩) y y))) #[true, false, false, true, true, true, false, false, false, false, false, false, false] 9 (fun (gs : Nat × Nat) W => Below w.heap.size w W ∧ Lw.RowB W gs.2 y (fun _ => 0)) ?_ (fun key010 => ?_)
    · rintro ⟨g0, g1⟩ W ⟨hb, r1⟩
      simp only [Act.put, List.setIfInBounds_toArray, List.set_cons_zero, List.set_cons_succ]
      have cv1 := hKY.out W g1 r1
      refine wpAny_ready (rs := [1, 6]) (by kernel_rfl) (by simp) ?_
      refine ready_one2 (some 40) rfl rfl rfl (.slice (some ⟨W.heap.size, 0, none⟩) x x) (W.alloc (.cells MX 5)) (by go_simp) ?_ (ready_one2 (some 45) rfl rfl rfl (.string KY) W (by go_simp) ?_ AllReady.nil)
      · simp only [Act.put, List.setIfInBounds_toArray, List.set_cons_zero, List.set_cons_succ]
        exact key11.out (W.heap.size, g1) _ (⟨hb.alloc hb.size _, Lw.rowB_new W MX x HMX.out.1 HMX.out.2, World.rowIs.alloc r1 _⟩)
      · simp only [Act.put, List.setIfInBounds_toArray, List.set_cons_zero, List.set_cons_succ]
        exact key02.out (0, g1) _ (hb)
    simp only [Act.put, List.setIfInBounds_toArray, List.set_cons_zero, List.set_cons_succ] at key010
    have key01 := Lib.hid key010
    clear key010
    refine Lw.meetA (fun (gs : Nat × Nat) a => (a.put (some 40) (.slice (some ⟨gs.1, 0, none⟩) x x))) #[true, true, false, true, true, false, false, false, false, false, false, false, false] 9 (fun (gs : Nat × Nat) W => Below w.heap.size w W ∧ Lw.RowB W gs.1 x (fun _ => 0)) ?_ (fun key100 => ?_)
    · rintro ⟨g0, g1⟩ W ⟨hb, r0⟩
      simp only [Act.put, List.setIfInBounds_toArray, List.set_cons_zero, List.set_cons_succ]
      have cv0 := hKX.out W g0 r0
      refine wpAny_ready (rs := [2, 5]) (by kernel_rfl) (by simp) ?_
      refine ready_one2 (some 41) rfl rfl rfl (.string KX) W (by go_simp) ?_ (ready_one2 (some 44) rfl rfl rfl (.slice (some ⟨W.heap.size, 0, none⟩) y y) (W.alloc (.cells MY 5)) (by go_simp) ?_ AllReady.nil)
      · simp only [Act.put, List.setIfInBounds_toArray, List.set_cons_zero, List.set_cons_succ]
        exact key20.out (g0, 0) _ (hb)
      · simp only [Act.put, List.setIfInBounds_toArray, List.set_cons_zero, List.set_cons_succ]
        exact key11.out (g0, W.heap.size) _ (⟨hb.alloc hb.size _, World.rowIs.alloc r0 _, Lw.rowB_new W MY y HMY.out.1 HMY.out.2⟩)
    simp only [Act.put, List.setIfInBounds_toArray, List.set_cons_zero, List.set_cons_succ] at key100
    have key10 := Lib.hid key100
    clear key100
    refine wpAny_ready (rs := [1, 5]) (by kernel_rfl) (by simp) ?_
    refine ready_one2 (some 40) rfl rfl rfl (.slice (some ⟨D.heap.size, 0, none⟩) x x) (D.alloc (.cells MX 5)) (by go_simp) ?_ (ready_one2 (some 44) rfl rfl rfl (.slice (some ⟨D.heap.size, 0, none⟩) y y) (D.alloc (.cells MY 5)) (by go_simp) ?_ AllReady.nil)
    · simp only [Act.put, List.setIfInBounds_toArray, List.set_cons_zero, List.set_cons_succ]
      exact key10.out (D.heap.size, 0) _ (⟨HB.out.alloc HB.out.size _, Lw.rowB_new D MX x HMX.out.1 HMX.out.2⟩)
    · simp only [Act.put, List.setIfInBounds_toArray, List.set_cons_zero, List.set_cons_succ]
      exact key01.out (0, D.heap.size) _ (⟨HB.out.alloc HB.out.size _, Lw.rowB_new D MY y HMY.out.1 HMY.out.2⟩)

set_option maxRecDepth 100000 in
theorem lifted (os : Os) (started : os.Started) (H : Type) (enc : TypeId × Value → H) :
    ReturnsInHanded {} Try.checked os 6 .any (Rows.chachaFormsSpec.pre6 enc Try.prog Try.f6 Rows.chachaFormsRow.domain false) (Rows.chachaFormsSpec.post enc Try.prog Try.f6 false true false false) := by
  refine returnsInHanded_of_change (C := Try.checked) own started (by kernel_rfl) Try.func6
    (ChangeSpec.witness6 (enc := enc) (C := Try.checked) false ⟨#[], #[.int .i64 0, .int .i64 0, .int .i64 0], []⟩ 8 (by kernel_rfl) (by kernel_rfl) (by kernel_rfl) (by kernel_rfl)) ?_
  intro W base args ds gs before hval0 hW hcnd _
  have hval : ∀ (j : Nat) t v, Try.f6.params[j]? = some t → args[j]? = some v → Value.okWide Try.prog W .any base t v := hval0
  have hW' := hW
  obtain ⟨p, q, hA0, hV, rfl, hfz, hnd⟩ := hW
  have hA : DataW.TrodAll enc Try.prog W 0 (fun _ => true) true Try.f6.params.toList args.toList ds p := hA0
  rw [Try.params6] at hA hval
  obtain ⟨v0, vs0, d0, ds0, p0, q0, hargs, rfl, rfl, h0, r0⟩ := trodAll_cons hA
  obtain ⟨v1, vs1, d1, ds1, p1, q1, rfl, rfl, rfl, h1, r1⟩ := trodAll_cons r0
  obtain ⟨v2, vs2, d2, ds2, p2, q2, rfl, rfl, rfl, h2, r2⟩ := trodAll_cons r1
  obtain ⟨rfl, rfl, rfl⟩ := trodAll_nil r2
  obtain rfl : args = #[v0, v1, v2] := by cases args; simp_all
  obtain ⟨rfl, rfl⟩ := trodVars_none hV
  obtain ⟨a0, rfl, rfl, rfl, w0⟩ := open_int Try.underlying3 (hval 0 3 v0 rfl rfl) h0
  obtain ⟨a1, rfl, rfl, rfl, w1⟩ := open_int Try.underlying3 (hval 1 3 v1 rfl rfl) h1
  obtain ⟨a2, rfl, rfl, rfl, w2⟩ := open_int Try.underlying3 (hval 2 3 v2 rfl rfl) h2
  clear hA0 hval0
  simp only [List.append_nil] at hW'
  refine (walk a0 a1 a2 w0 w1 w2 W).mono fun e W' ⟨he, bel⟩ => ?_
  subst he
  exact ⟨_, rfl, _, _, _, [], [], [], hW', trodAll_mk1 (shut_bool Try.underlying4 _), (trodAll_cons_mk (shut_int Try.underlying3 w0) (trodAll_cons_mk (shut_int Try.underlying3 w1) (trodAll_cons_mk (shut_int Try.underlying3 w2) trodAll_mk0))), rfl, bel.frame _, fun h => by cases h⟩

theorem over : Rows.chachaFormsRow.holds Try.pinned (OpenSpec.ofChange Rows.chachaFormsSpec) :=
  OpenClaim.holds_of_wide 6 Try.f6 rfl rfl rfl rfl rfl rfl rfl ⟨rfl, rfl, rfl, rfl, rfl⟩ rfl rfl rfl rfl rfl (by kernel_rfl) Try.func6 (by kernel_rfl)
    (of_decide_eq_true (by kernel_rfl)) (by unfold Func.isWrapper; first | (rw [if_pos (by decide +kernel)]; kernel_rfl) | (rw [if_neg (by decide +kernel)]; exact ⟨rfl, rfl⟩))
    (fun os started H enc _ => lifted os started H enc)

theorem proved : Rows.ChachaFormsSaid :=
  over
#print axioms proved
end Go.Proofs.Ytdmkfbdfjhaglaa.chachaForms
