/-
  AeadForms (P8.1, P8.2): at every number taken for a suite, a key's and a nonce's size, just the calls of the right form are answered.
-/
import Derived.Test.YtljhenjbjondkaaJocc
import Derived.Test.YtljhenjbjondkaaRows
import Derived.WalkKit
import Derived.ProofKit
import Derived.OpenShut
import Derived.ShutString
import Derived.Below
import Derived.ChangeOld
namespace Go.Proofs.Ytljhenjbjondkaa.aeadForms
open Go.ChangeShapes Go.WideShapes Go.ChangeAt Go.RowKit
open Go.ChangeMaps (open_string shut_string)
set_option linter.unusedVariables false

theorem own : ownKnob Try.prog.godebug = none := by kernel_rfl

open Go.Proofs.Im (ready_one2 ready_call2 wpAny_two)
set_option maxHeartbeats 8000000 in
set_option maxRecDepth 100000 in
theorem walk (a0 : Int) (a1 : Int) (a2 : Int) (_w0 : (Lit.int .i64 a0).wf = true) (_w1 : (Lit.int .i64 a1).wf = true) (_w2 : (Lit.int .i64 a2).wf = true) (w : World) :
    Calls Try.prog 5 #[.int .i64 a0, .int .i64 a1, .int .i64 a2] w fun e w' => e = .returned (.bool true) ∧ Below w.heap.size w w' := by
  clear _w0 _w1 _w2
  have HB : Hid (Below w.heap.size w w) := Below.refl _ _
  obtain ⟨q, hq, hmq⟩ := Ew.maskN7 a0
  obtain ⟨x, hx, hmx⟩ := Lw.maskN63 a1
  obtain ⟨r, hr, hmr⟩ := Lw.maskN3 a2
  obtain ⟨y, hy⟩ : ∃ y : Nat, y = 10 + r := ⟨_, rfl⟩
  have yw : IntKind.i64.wrap (10 + (r : Int)) = (y : Int) := by rw [IntWalk.i64_in _ (by omega)]; omega
  obtain ⟨z, hz⟩ : ∃ z : Int, z = 4864 + (q : Int) := ⟨_, rfl⟩
  have zw : IntKind.i64.wrap (4864 + (q : Int)) = z := by rw [IntWalk.i64_in _ (by omega)]; omega
  obtain ⟨MX, h1X, h2X, hmkX0⟩ := Lw.zeros x (by omega)
  have hmkX : ∀ W : World, (Instr.makeSlice 27 (.int .i64 (x : Int)) (.int .i64 (x : Int))).run Try.prog W = .ok (.slice (some ⟨W.heap.size, 0, none⟩) x x) (W.alloc (.cells MX 5)) := hmkX0
  have HMX : Hid (MX.size = x ∧ ∀ i, i < x → MX[i]? = some (.int .u8 0)) := ⟨h1X, h2X⟩
  clear h1X h2X hmkX0
  obtain ⟨MY, h1Y, h2Y, hmkY0⟩ := Lw.zeros y (by omega)
  have hmkY : ∀ W : World, (Instr.makeSlice 27 (.int .i64 (y : Int)) (.int .i64 (y : Int))).run Try.prog W = .ok (.slice (some ⟨W.heap.size, 0, none⟩) y y) (W.alloc (.cells MY 5)) := hmkY0
  have HMY : Hid (MY.size = y ∧ ∀ i, i < y → MY[i]? = some (.int .u8 0)) := ⟨h1Y, h2Y⟩
  clear h1Y h2Y hmkY0
  obtain ⟨MA, h1A, h2A, hmkA0⟩ := Lw.zeros 20 (by decide)
  have hmkA : ∀ W : World, (Instr.makeSlice 27 (.int .i64 20) (.int .i64 20)).run Try.prog W = .ok (.slice (some ⟨W.heap.size, 0, none⟩) 20 20) (W.alloc (.cells MA 5)) := hmkA0
  have HMA : Hid (MA.size = 20 ∧ ∀ i, i < 20 → MA[i]? = some (.int .u8 0)) := ⟨h1A, h2A⟩
  clear h1A h2A hmkA0
  obtain ⟨KX, hsX, hcX⟩ := Lw.nought_text x
  have hKX := Lib.hid hcX
  clear hcX
  obtain ⟨KY, hsY, hcY⟩ := Lw.nought_text y
  have hKY := Lib.hid hcY
  clear hcY
  have HSx : Hid (∀ W : World, Ew.Seg (W.alloc (.cells MA 5)) W.heap.size 0 20 (fun _ => 0)) := fun W => Ew.Seg.of_row (Lw.rowB_new W MA 20 HMA.out.1 HMA.out.2) 0 20 (by decide)
  obtain ⟨Z, hZ⟩ : ∃ Z, Lw.pieceS (fun _ => 0) 0 20 = Z := ⟨_, rfl⟩
  have hZs : Z.size = 20 := by rw [← hZ]; exact Lw.pieceS_size _ _ _
  have hKA := Lib.hid fun W g (h : Lw.RowB W g 20 (fun _ => 0)) => hZ ▸ h.text 0 20 20 (by decide)
  have kZ := Lib.hid (Ed.sizes_any z)
  have kS := Lib.hid fun W => Ed.seal_any z KX KY ⟨#[]⟩ ⟨#[97]⟩ W
  have kO : Hid (∀ (gx : Nat) (u : World), Ew.Seg u gx 0 20 (fun _ => 0) → Calls Try.prog 12 #[.int .i64 z, .string KX, .string KY, .string ⟨#[]⟩, .slice (some ⟨gx, 0, none⟩) 7 20, .slice (some ⟨gx, 7, none⟩) 13 13] u fun e w' =>
      e = .returned (.tuple #[.int .i64 ((Ad.o8S z KX KY ⟨#[]⟩ Z).size : Nat), .int .i64 (Ad.o8E z KX KY ⟨#[]⟩ Z)]) ∧ Pd.But gx u w' ∧ ∃ Y, Ew.Seg w' gx 0 20 Y ∧ Lw.pieceS Y 0 20 = Ad.o8X z KX KY ⟨#[]⟩ Z) := fun gx u hs => by
    have h := Ed.openIn_any z KX KY ⟨#[]⟩ gx 0 7 13 20 20 13 _ _ _ u hs (.inr rfl) (.inr rfl) rfl (by decide) (by decide) (by decide)
    rw [hZ] at h
    exact h
  have kI : Hid (∀ (gx : Nat) (u : World) (Y : Nat → Nat) (V : ByteArray), Ew.Seg u gx 0 20 Y → Lw.pieceS Y 0 20 = V → Calls Try.prog 9 #[.int .i64 z, .string KX, .string KY, .string ⟨#[]⟩, .slice (some ⟨gx, 0, none⟩) 3 20, .slice (some ⟨gx, 3, none⟩) 17 17] u fun e w' =>
      e = .returned (.int .i64 (Ad.i8E z KX KY ⟨#[]⟩ V)) ∧ Pd.But gx u w' ∧ ∃ Y, Ew.Seg w' gx 0 20 Y ∧ Lw.pieceS Y 0 20 = Ad.i8X z KX KY ⟨#[]⟩ V) := fun gx u Y V hs hv => by
    have h := Ed.sealIn_any z KX KY ⟨#[]⟩ gx 0 3 17 20 20 17 _ _ Y u hs (.inr rfl) (.inr rfl) rfl (by decide) (by decide) (by decide)
    rw [hv] at h
    exact h
  have h5 := Ew.forms_ways z KX KY Z hZs
  generalize Ad.sizK z = KK at kZ h5
  generalize Ad.sizB z = BB at kZ
  generalize Ad.sizE z = E0 at kZ h5
  generalize Ad.s8S z KX KY ⟨#[]⟩ ⟨#[97]⟩ = T1 at kS
  generalize Ad.s8E z KX KY ⟨#[]⟩ ⟨#[97]⟩ = E1 at kS h5
  have kI := Lib.hid fun gx u Y => kI.out gx u Y (Ad.o8X z KX KY ⟨#[]⟩ Z)
  generalize Ad.i8E z KX KY ⟨#[]⟩ (Ad.o8X z KX KY ⟨#[]⟩ Z) = E3 at kI h5
  generalize Ad.i8X z KX KY ⟨#[]⟩ (Ad.o8X z KX KY ⟨#[]⟩ Z) = V3 at kI
  generalize Ad.o8X z KX KY ⟨#[]⟩ Z = V at kO kI h5
  generalize ((Ad.o8S z KX KY ⟨#[]⟩ Z).size : Int) = n2 at kO
  generalize Ad.o8E z KX KY ⟨#[]⟩ Z = E2 at kO h5
  rw [hsX, hsY] at h5
  have hz0 : 4864 ≤ z ∧ z ≤ 4871 := by omega
  clear hx hr hy hz hsX hsY hZ hq
  rcases h5 with ⟨hz, hk, hn, hE0, hE1, hE2, hE3⟩ | ⟨hz, hk, hn, hE0, hE1, ⟨hE2, hV⟩, hE3⟩ | ⟨hz, hk, hE0, hE1, ⟨hE2, hV⟩, hE3⟩ | ⟨hz, hk, hn, hE0, hE1, ⟨hE2, hV⟩, hE3⟩ | ⟨hz, hE0, hE1, ⟨hE2, hV⟩, hE3⟩
  by_cases hV : V = Z
  rotate_left
  · have hcmp : (V.toList == Z.toList) = false := Bool.eq_false_iff.2 fun h => hV ((Pol.same_iff _ _).1 h)
    clear hV
    have c1 : ((4865 : Int) ≤ z) = True := eq_true (by omega)
    have c2 : (z ≤ (4867 : Int)) = True := eq_true (by omega)
    have k1 : ((x : Int) == KK) = true := by simpa using hk
    have y1 : ((y : Int) == 12) = true := by simp; omega
    have HE0 := Lib.hid hE0
    have HE1 := Lib.hid hE1
    have HE2 := Lib.hid hE2
    have HE3 := Lib.hid hE3
    clear hE0 hE1 hE2 hE3
    clear hz hk hn hz0
    go_enter Try.func5, Try.ntmps5
    go_wp2_with (go_at_call 7; fail)
    refine (Ew.awake8_any _).mono ?_
    rintro e u ⟨rfl, hb⟩
    have HB := Lib.hid (Lw.go_on HB.out hb)
    clear hb
    go_wp2_with (go_at_call 8; fail)
    refine (kZ.out _).mono ?_
    rintro e u0 ⟨rfl, hb⟩
    have HB := Lib.hid (Lw.go_on HB.out hb)
    clear hb kZ
    go_upto_region 9 with (fail)
    have HS := Lib.hid (HSx.out u0)
    have HGx : Hid (w.heap.size ≤ u0.heap.size) := HB.out.size
    have HB : Hid (Below w.heap.size w (u0.alloc (.cells MA 5))) := HB.out.alloc HGx.out _
    clear HSx
    generalize u0.alloc (.cells MA 5) = u1 at HS HB ⊢
    generalize u0.heap.size = gx at HS HGx ⊢
    have kO := Lib.hid (kO.out gx)
    have kI := Lib.hid (kI.out gx)
    go_upto_region 9 with (fail)
    refine wp_region_any (by kernel_rfl) ?_
    change wpAny _ _ _ _ _ _ _ u1.drew
    have HBw : Hid (Below (w.heap.size) w u1.drew) := HB.out.drew
    have HSw := Lib.hid (HS.out.drew)
    clear HB
    generalize u1.drew = D at HBw HSw ⊢
    have HB : Hid (Below D.heap.size D D) := Below.refl _ _
    refine Lw.take_to (i := 0) (some 55) (.int .i64 z) rfl rfl (by kernel_rfl) (by kernel_rfl) (by kernel_rfl) (fun _ _ _ h => h) (Or.inl ⟨by rfl, fun w => by go_simp⟩) ?_
    simp only [Act.put, List.setIfInBounds_toArray, List.set_cons_zero, List.set_cons_succ]
    refine Lw.take_to (i := 1) (some 56) (.int .i64 (x : Int)) rfl rfl (by kernel_rfl) (by kernel_rfl) (by kernel_rfl) (fun _ _ _ h => h) (Or.inl ⟨by rfl, fun w => by go_simp⟩) ?_
    simp only [Act.put, List.setIfInBounds_toArray, List.set_cons_zero, List.set_cons_succ]
    refine Lw.take_to (i := 4) (some 59) (.int .i64 (y : Int)) rfl rfl (by kernel_rfl) (by kernel_rfl) (by kernel_rfl) (fun _ _ _ h => h) (Or.inl ⟨by rfl, fun w => by go_simp⟩) ?_
    simp only [Act.put, List.setIfInBounds_toArray, List.set_cons_zero, List.set_cons_succ]
    refine Lw.meetA (fun (gs : Nat × Nat) a => ((((a.put (some 57) (.slice (some ⟨gs.1, 0, none⟩) x x)).put (some 58) (.string KX)).put (some 60) (.slice (some ⟨gs.2, 0, none⟩) y y)).put (some 61) (.string KY))) #[true, true, true, true, true, true, true, false, false, false, false, false, false] 6 (fun (gs : Nat × Nat) W => Below D.heap.size D W) ?_ (fun key220 => ?_)
    · rintro ⟨g0, g1⟩ W hb
      simp only [Act.put, List.setIfInBounds_toArray, List.set_cons_zero, List.set_cons_succ]
      have HB := Lib.hid hb
      clear hb
      refine wpAny_ready (rs := [7]) (by kernel_rfl) (by simp) ?_
      refine ready_call2 (some 62) rfl rfl rfl 10 _ _ rfl (fun _ _ => by go_simp) #[.int .i64 z, .string KX, .string KY, .string ⟨#[]⟩, .string ⟨#[97]⟩] (by kernel_rfl) ?_ AllReady.nil
      refine (kS.out _).mono ?_
      rintro e v ⟨rfl, hb⟩
      refine ⟨_, rfl, ?_⟩
      have hbD : Below D.heap.size D v := HB.out.trans (hb.mono HB.out.size)
      clear HB
      have HS := Lib.hid (HSw.out.on hbD)
      have HB : Hid (Below w.heap.size w v) := Lw.go_on HBw.out hbD
      clear hb hbD HBw HSw
      simp only [Act.put, List.setIfInBounds_toArray, List.set_cons_zero, List.set_cons_succ]
      refine Lw.take_to (i := 8) (some 54) (.tuple #[.string T1, .int .i64 E1]) rfl rfl (by kernel_rfl) (by kernel_rfl) (by kernel_rfl) (fun _ _ _ h => h) (Or.inl ⟨by rfl, fun w => by go_simp⟩) ?_
      simp only [Act.put, List.setIfInBounds_toArray, List.set_cons_zero, List.set_cons_succ]
      refine Lw.take_to (i := 9) (some 63) (.string T1) rfl rfl (by kernel_rfl) (by kernel_rfl) (by kernel_rfl) (fun _ _ _ h => h) (Or.inl ⟨by rfl, fun w => by go_simp⟩) ?_
      simp only [Act.put, List.setIfInBounds_toArray, List.set_cons_zero, List.set_cons_succ]
      refine Lw.take_to (i := 10) (some 64) (.int .i64 E1) rfl rfl (by kernel_rfl) (by kernel_rfl) (by kernel_rfl) (fun _ _ _ h => h) (Or.inl ⟨by rfl, fun w => by go_simp⟩) ?_
      simp only [Act.put, List.setIfInBounds_toArray, List.set_cons_zero, List.set_cons_succ]
      refine Lw.take_to (i := 11) (some 16) (.string T1) rfl rfl (by kernel_rfl) (by kernel_rfl) (by kernel_rfl) (fun _ _ _ h => h) (Or.inl ⟨by rfl, fun w => by go_simp⟩) ?_
      simp only [Act.put, List.setIfInBounds_toArray, List.set_cons_zero, List.set_cons_succ]
      refine Lw.take_to (i := 12) (some 17) (.int .i64 E1) rfl rfl (by kernel_rfl) (by kernel_rfl) (by kernel_rfl) (fun _ _ _ h => h) (Or.inl ⟨by rfl, fun w => by go_simp⟩) ?_
      simp only [Act.put, List.setIfInBounds_toArray, List.set_cons_zero, List.set_cons_succ]
      refine wpAny_done (by kernel_rfl) ?_ _
      go_upto_region 10 with (fail)
      refine wp_region_any (by kernel_rfl) ?_
      change wpAny _ _ _ _ _ _ _ v.drew
      have HBw : Hid (Below (w.heap.size) w v.drew) := HB.out.drew
      have HSw := Lib.hid (HS.out.drew)
      clear HB
      generalize v.drew = D at HBw HSw ⊢
      have HB : Hid (Below D.heap.size D D) := Below.refl _ _
      refine Lw.take_to (i := 0) (some 66) (.int .i64 z) rfl rfl (by kernel_rfl) (by kernel_rfl) (by kernel_rfl) (fun _ _ _ h => h) (Or.inl ⟨by rfl, fun w => by go_simp⟩) ?_
      simp only [Act.put, List.setIfInBounds_toArray, List.set_cons_zero, List.set_cons_succ]
      refine Lw.take_to (i := 1) (some 67) (.int .i64 (x : Int)) rfl rfl (by kernel_rfl) (by kernel_rfl) (by kernel_rfl) (fun _ _ _ h => h) (Or.inl ⟨by rfl, fun w => by go_simp⟩) ?_
      simp only [Act.put, List.setIfInBounds_toArray, List.set_cons_zero, List.set_cons_succ]
      refine Lw.take_to (i := 4) (some 70) (.int .i64 (y : Int)) rfl rfl (by kernel_rfl) (by kernel_rfl) (by kernel_rfl) (fun _ _ _ h => h) (Or.inl ⟨by rfl, fun w => by go_simp⟩) ?_
      simp only [Act.put, List.setIfInBounds_toArray, List.set_cons_zero, List.set_cons_succ]
      refine Lw.take_to (i := 7) (some 73) (.slice (some ⟨gx, 0, none⟩) 20 20) rfl rfl (by kernel_rfl) (by kernel_rfl) (by kernel_rfl) (fun _ _ _ h => h) (Or.inl ⟨by rfl, fun w => by go_simp⟩) ?_
      simp only [Act.put, List.setIfInBounds_toArray, List.set_cons_zero, List.set_cons_succ]
      refine Lw.take_to (i := 8) (some 74) (.slice (some ⟨gx, 0, none⟩) 7 20) rfl rfl (by kernel_rfl) (by kernel_rfl) (by kernel_rfl) (fun _ _ _ h => h) (Or.inl ⟨by rfl, fun w => by go_simp⟩) ?_
      simp only [Act.put, List.setIfInBounds_toArray, List.set_cons_zero, List.set_cons_succ]
      refine Lw.take_to (i := 9) (some 75) (.slice (some ⟨gx, 0, none⟩) 20 20) rfl rfl (by kernel_rfl) (by kernel_rfl) (by kernel_rfl) (fun _ _ _ h => h) (Or.inl ⟨by rfl, fun w => by go_simp⟩) ?_
      simp only [Act.put, List.setIfInBounds_toArray, List.set_cons_zero, List.set_cons_succ]
      refine Lw.take_to (i := 10) (some 76) (.slice (some ⟨gx, 7, none⟩) 13 13) rfl rfl (by kernel_rfl) (by kernel_rfl) (by kernel_rfl) (fun _ _ _ h => h) (Or.inl ⟨by rfl, fun w => by go_simp⟩) ?_
      simp only [Act.put, List.setIfInBounds_toArray, List.set_cons_zero, List.set_cons_succ]
      refine Lw.meetA (fun (gs : Nat × Nat) a => ((((a.put (some 68) (.slice (some ⟨gs.1, 0, none⟩) x x)).put (some 69) (.string KX)).put (some 71) (.slice (some ⟨gs.2, 0, none⟩) y y)).put (some 72) (.string KY))) #[true, true, true, true, true, true, true, true, true, true, true, false, false, false, false, false, false] 6 (fun (gs : Nat × Nat) W => Below D.heap.size D W) ?_ (fun key220 => ?_)
      · rintro ⟨g0, g1⟩ W hb
        simp only [Act.put, List.setIfInBounds_toArray, List.set_cons_zero, List.set_cons_succ]
        have HB := Lib.hid hb
        clear hb
        refine wpAny_ready (rs := [11]) (by kernel_rfl) (by simp) ?_
        refine ready_call2 (some 77) rfl rfl rfl 12 _ _ rfl (fun _ _ => by go_simp) #[.int .i64 z, .string KX, .string KY, .string ⟨#[]⟩, .slice (some ⟨gx, 0, none⟩) 7 20, .slice (some ⟨gx, 7, none⟩) 13 13] (by kernel_rfl) ?_ AllReady.nil
        refine (kO.out _ (HSw.out.on HB.out)).mono ?_
        rintro e v ⟨rfl, hbut, Y, hY, hYt⟩
        refine ⟨_, rfl, ?_⟩
        have hbw := Lw.go_on HBw.out HB.out
        clear HB
        have HB : Hid (Below w.heap.size w v) := hbut.below hbw HGx.out hbw.size
        have HS := Lib.hid hY
        have HT := Lib.hid hYt
        clear hbut hbw hY hYt HBw HSw
        simp only [Act.put, List.setIfInBounds_toArray, List.set_cons_zero, List.set_cons_succ]
        refine Lw.take_to (i := 12) (some 65) (.tuple #[.int .i64 n2, .int .i64 E2]) rfl rfl (by kernel_rfl) (by kernel_rfl) (by kernel_rfl) (fun _ _ _ h => h) (Or.inl ⟨by rfl, fun w => by go_simp⟩) ?_
        simp only [Act.put, List.setIfInBounds_toArray, List.set_cons_zero, List.set_cons_succ]
        refine Lw.take_to (i := 13) (some 78) (.int .i64 n2) rfl rfl (by kernel_rfl) (by kernel_rfl) (by kernel_rfl) (fun _ _ _ h => h) (Or.inl ⟨by rfl, fun w => by go_simp⟩) ?_
        simp only [Act.put, List.setIfInBounds_toArray, List.set_cons_zero, List.set_cons_succ]
        refine Lw.take_to (i := 14) (some 79) (.int .i64 E2) rfl rfl (by kernel_rfl) (by kernel_rfl) (by kernel_rfl) (fun _ _ _ h => h) (Or.inl ⟨by rfl, fun w => by go_simp⟩) ?_
        simp only [Act.put, List.setIfInBounds_toArray, List.set_cons_zero, List.set_cons_succ]
        refine Lw.take_to (i := 15) (some 18) (.int .i64 n2) rfl rfl (by kernel_rfl) (by kernel_rfl) (by kernel_rfl) (fun _ _ _ h => h) (Or.inl ⟨by rfl, fun w => by go_simp⟩) ?_
        simp only [Act.put, List.setIfInBounds_toArray, List.set_cons_zero, List.set_cons_succ]
        refine Lw.take_to (i := 16) (some 19) (.int .i64 E2) rfl rfl (by kernel_rfl) (by kernel_rfl) (by kernel_rfl) (fun _ _ _ h => h) (Or.inl ⟨by rfl, fun w => by go_simp⟩) ?_
        simp only [Act.put, List.setIfInBounds_toArray, List.set_cons_zero, List.set_cons_succ]
        refine wpAny_done (by kernel_rfl) ?_ _
        go_upto_region 11 with (fail)
        refine wp_region_any (by kernel_rfl) ?_
        change wpAny _ _ _ _ _ _ _ v.drew
        have HBw : Hid (Below (w.heap.size) w v.drew) := HB.out.drew
        have HSw := Lib.hid (HS.out.drew)
        clear HB
        generalize v.drew = D at HBw HSw ⊢
        have HB : Hid (Below D.heap.size D D) := Below.refl _ _
        refine Lw.take_to (i := 0) (some 80) (.slice (some ⟨gx, 0, none⟩) 20 20) rfl rfl (by kernel_rfl) (by kernel_rfl) (by kernel_rfl) (fun _ _ _ h => h) (Or.inl ⟨by rfl, fun w => by go_simp⟩) ?_
        simp only [Act.put, List.setIfInBounds_toArray, List.set_cons_zero, List.set_cons_succ]
        refine Lw.meetA (fun (gs : Nat × Nat) a => (((a.put (some 81) (.string V)).put (some 82) (.slice (some ⟨gs.2, 0, none⟩) 20 20)).put (some 83) (.string Z))) #[true, true, true, true, false, false, false, false, false, false] 6 (fun (gs : Nat × Nat) W => Below D.heap.size D W) ?_ (fun key220 => ?_)
        · rintro ⟨g0, g1⟩ W hb
          simp only [Act.put, List.setIfInBounds_toArray, List.set_cons_zero, List.set_cons_succ]
          have HB := Lib.hid hb
          clear hb
          have HBn : Hid (Below (w.heap.size) w W) := Lw.go_on HBw.out HB.out
          have HS := Lib.hid (HSw.out.on HB.out)
          clear HB
          have HB := HBn
          clear HBn HBw HSw
          refine Lw.take_to (i := 4) (some 84) (.bool true) rfl rfl (by kernel_rfl) (by kernel_rfl) (by kernel_rfl) (fun _ _ _ h => h) (Or.inl ⟨by rfl, fun w => by go_simp⟩) ?_
          simp only [Act.put, List.setIfInBounds_toArray, List.set_cons_zero, List.set_cons_succ]
          refine Lw.take_to (i := 5) (some 85) (.bool true) rfl rfl (by kernel_rfl) (by kernel_rfl) (by kernel_rfl) (fun _ _ _ h => h) (Or.inl ⟨by rfl, fun w => by go_simp⟩) ?_
          simp only [Act.put, List.setIfInBounds_toArray, List.set_cons_zero, List.set_cons_succ]
          refine Lw.take_to (i := 6) (some 86) (.int .i64 E2) rfl rfl (by kernel_rfl) (by kernel_rfl) (by kernel_rfl) (fun _ _ _ h => h) (Or.inl ⟨by rfl, fun w => by go_simp⟩) ?_
          simp only [Act.put, List.setIfInBounds_toArray, List.set_cons_zero, List.set_cons_succ]
          refine wpAny_ready (rs := [7]) (by kernel_rfl) (by simp) ?_
          refine Ew.ready_callG (some 87) rfl (by rfl) rfl 11 _ _ rfl (fun _ _ => by go_simp) #[.int .i64 E2] (by kernel_rfl) ?_ AllReady.nil
          refine (Lw.num_same _ _).mono ?_
          rintro e W9 ⟨rfl, rfl⟩
          refine ⟨_, rfl, ?_⟩
          simp only [Act.put, List.setIfInBounds_toArray, List.set_cons_zero, List.set_cons_succ]
          refine Lw.take_to (i := 8) (some 88) (.bool false) rfl rfl (by kernel_rfl) (by kernel_rfl) (by kernel_rfl) (fun _ _ _ h => h) (Or.inl ⟨by rfl, fun w => by have hE2 := HE2.out; subst hE2; go_simp⟩) ?_
          simp only [Act.put, List.setIfInBounds_toArray, List.set_cons_zero, List.set_cons_succ]
          refine Lw.take_to (i := 9) (some 89) (.bool false) rfl rfl (by kernel_rfl) (by kernel_rfl) (by kernel_rfl) (fun _ _ _ h => h) (Or.inl ⟨by rfl, fun w => by go_simp⟩) ?_
          simp only [Act.put, List.setIfInBounds_toArray, List.set_cons_zero, List.set_cons_succ]
          refine wpAny_done (by kernel_rfl) ?_ _
          go_upto_region 13 with (fail)
          refine wp_region_any (by kernel_rfl) ?_
          change wpAny _ _ _ _ _ _ _ W9.drew
          have HBw : Hid (Below (w.heap.size) w W9.drew) := HB.out.drew
          have HSw := Lib.hid (HS.out.drew)
          clear HB
          generalize W9.drew = D at HBw HSw ⊢
          have HB : Hid (Below D.heap.size D D) := Below.refl _ _
          refine Lw.take_to (i := 0) (some 90) (.int .i64 z) rfl rfl (by kernel_rfl) (by kernel_rfl) (by kernel_rfl) (fun _ _ _ h => h) (Or.inl ⟨by rfl, fun w => by go_simp⟩) ?_
          simp only [Act.put, List.setIfInBounds_toArray, List.set_cons_zero, List.set_cons_succ]
          refine Lw.take_to (i := 1) (some 91) (.int .i64 (x : Int)) rfl rfl (by kernel_rfl) (by kernel_rfl) (by kernel_rfl) (fun _ _ _ h => h) (Or.inl ⟨by rfl, fun w => by go_simp⟩) ?_
          simp only [Act.put, List.setIfInBounds_toArray, List.set_cons_zero, List.set_cons_succ]
          refine Lw.take_to (i := 4) (some 94) (.int .i64 (y : Int)) rfl rfl (by kernel_rfl) (by kernel_rfl) (by kernel_rfl) (fun _ _ _ h => h) (Or.inl ⟨by rfl, fun w => by go_simp⟩) ?_
          simp only [Act.put, List.setIfInBounds_toArray, List.set_cons_zero, List.set_cons_succ]
          refine Lw.take_to (i := 7) (some 97) (.slice (some ⟨gx, 0, none⟩) 20 20) rfl rfl (by kernel_rfl) (by kernel_rfl) (by kernel_rfl) (fun _ _ _ h => h) (Or.inl ⟨by rfl, fun w => by go_simp⟩) ?_
          simp only [Act.put, List.setIfInBounds_toArray, List.set_cons_zero, List.set_cons_succ]
          refine Lw.take_to (i := 8) (some 98) (.slice (some ⟨gx, 0, none⟩) 3 20) rfl rfl (by kernel_rfl) (by kernel_rfl) (by kernel_rfl) (fun _ _ _ h => h) (Or.inl ⟨by rfl, fun w => by go_simp⟩) ?_
          simp only [Act.put, List.setIfInBounds_toArray, List.set_cons_zero, List.set_cons_succ]
          refine Lw.take_to (i := 9) (some 99) (.slice (some ⟨gx, 0, none⟩) 20 20) rfl rfl (by kernel_rfl) (by kernel_rfl) (by kernel_rfl) (fun _ _ _ h => h) (Or.inl ⟨by rfl, fun w => by go_simp⟩) ?_
          simp only [Act.put, List.setIfInBounds_toArray, List.set_cons_zero, List.set_cons_succ]
          refine Lw.take_to (i := 10) (some 100) (.slice (some ⟨gx, 3, none⟩) 17 17) rfl rfl (by kernel_rfl) (by kernel_rfl) (by kernel_rfl) (fun _ _ _ h => h) (Or.inl ⟨by rfl, fun w => by go_simp⟩) ?_
          simp only [Act.put, List.setIfInBounds_toArray, List.set_cons_zero, List.set_cons_succ]
          refine Lw.meetA (fun (gs : Nat × Nat) a => ((((a.put (some 92) (.slice (some ⟨gs.1, 0, none⟩) x x)).put (some 93) (.string KX)).put (some 95) (.slice (some ⟨gs.2, 0, none⟩) y y)).put (some 96) (.string KY))) #[true, true, true, true, true, true, true, true, true, true, true, false, false] 2 (fun (gs : Nat × Nat) W => Below D.heap.size D W) ?_ (fun key220 => ?_)
          · rintro ⟨g0, g1⟩ W hb
            simp only [Act.put, List.setIfInBounds_toArray, List.set_cons_zero, List.set_cons_succ]
            have HB := Lib.hid hb
            clear hb
            refine wpAny_ready (rs := [11]) (by kernel_rfl) (by simp) ?_
            refine ready_call2 (some 101) rfl rfl rfl 9 _ _ rfl (fun _ _ => by go_simp) #[.int .i64 z, .string KX, .string KY, .string ⟨#[]⟩, .slice (some ⟨gx, 0, none⟩) 3 20, .slice (some ⟨gx, 3, none⟩) 17 17] (by kernel_rfl) ?_ AllReady.nil
            refine (kI.out _ _ (HSw.out.on HB.out) HT.out).mono ?_
            rintro e v ⟨rfl, hbut, Y, hY, hYt⟩
            refine ⟨_, rfl, ?_⟩
            have hbw := Lw.go_on HBw.out HB.out
            clear HB
            have HB : Hid (Below w.heap.size w v) := hbut.below hbw HGx.out hbw.size
            have HS := Lib.hid hY
            have HT := Lib.hid hYt
            clear hbut hbw hY hYt HBw HSw
            simp only [Act.put, List.setIfInBounds_toArray, List.set_cons_zero, List.set_cons_succ]
            refine Lw.take_to (i := 12) (some 20) (.int .i64 E3) rfl rfl (by kernel_rfl) (by kernel_rfl) (by kernel_rfl) (fun _ _ _ h => h) (Or.inl ⟨by rfl, fun w => by go_simp⟩) ?_
            simp only [Act.put, List.setIfInBounds_toArray, List.set_cons_zero, List.set_cons_succ]
            refine wpAny_done (by kernel_rfl) ?_ _
            have hE0 := HE0.out
            have hE1 := HE1.out
            have hE2 := HE2.out
            have hE3 := HE3.out
            subst hE0
            subst hE1
            subst hE2
            subst hE3
            go_wp2_with (go_at_call 11; refine (Lw.num_same _ _).mono ?_; rintro e u ⟨rfl, rfl⟩)
            go_ret
            exact ⟨rfl, HB.out⟩
          simp only [Act.put, List.setIfInBounds_toArray, List.set_cons_zero, List.set_cons_succ] at key220
          have key22 := Lib.hid key220
          clear key220
          refine Lw.meetA (fun (gs : Nat × Nat) a => (((a.put (some 92) (.slice (some ⟨gs.1, 0, none⟩) x x)).put (some 95) (.slice (some ⟨gs.2, 0, none⟩) y y)).put (some 96) (.string KY))) #[true, true, true, false, true, true, true, true, true, true, true, false, false] 3 (fun (gs : Nat × Nat) W => Below D.heap.size D W ∧ Lw.RowB W gs.1 x (fun _ => 0)) ?_ (fun key120 => ?_)
          · rintro ⟨g0, g1⟩ W ⟨hb, r0⟩
            simp only [Act.put, List.setIfInBounds_toArray, List.set_cons_zero, List.set_cons_succ]
            have cv0 := hKX.out W g0 r0
            refine wpAny_ready (rs := [3]) (by kernel_rfl) (by simp) ?_
            refine ready_one2 (some 93) rfl rfl rfl (.string KX) W (by go_simp) ?_ AllReady.nil
            · simp only [Act.put, List.setIfInBounds_toArray, List.set_cons_zero, List.set_cons_succ]

              exact key22.out (g0, g1) _ (hb)
          simp only [Act.put, List.setIfInBounds_toArray, List.set_cons_zero, List.set_cons_succ] at key120
          have key12 := Lib.hid key120
          clear key120
          refine Lw.meetA (fun (gs : Nat × Nat) a => (((a.put (some 92) (.slice (some ⟨gs.1, 0, none⟩) x x)).put (some 93) (.string KX)).put (some 95) (.slice (some ⟨gs.2, 0, none⟩) y y))) #[true, true, true, true, true, true, false, true, true, true, true, false, false] 3 (fun (gs : Nat × Nat) W => Below D.heap.size D W ∧ Lw.RowB W gs.2 y (fun _ => 0)) ?_ (fun key210 => ?_)
          · rintro ⟨g0, g1⟩ W ⟨hb, r1⟩
            simp only [Act.put, List.setIfInBounds_toArray, List.set_cons_zero, List.set_cons_succ]
            have cv1 := hKY.out W g1 r1
            refine wpAny_ready (rs := [6]) (by kernel_rfl) (by simp) ?_
            refine ready_one2 (some 96) rfl rfl rfl (.string KY) W (by go_simp) ?_ AllReady.nil
            · simp only [Act.put, List.setIfInBounds_toArray, List.set_cons_zero, List.set_cons_succ]

              exact key22.out (g0, g1) _ (hb)
          simp only [Act.put, List.setIfInBounds_toArray, List.set_cons_zero, List.set_cons_succ] at key210
          have key21 := Lib.hid key210
          clear key210
          refine Lw.meetA (fun (gs : Nat × Nat) a => ((a.put (some 95) (.slice (some ⟨gs.2, 0, none⟩) y y)).put (some 96) (.string KY))) #[true, true, false, false, true, true, true, true, true, true, true, false, false] 4 (fun (gs : Nat × Nat) W => Below D.heap.size D W) ?_ (fun key020 => ?_)
          · rintro ⟨g0, g1⟩ W hb
            simp only [Act.put, List.setIfInBounds_toArray, List.set_cons_zero, List.set_cons_succ]
            refine wpAny_ready (rs := [2]) (by kernel_rfl) (by simp) ?_
            refine ready_one2 (some 92) rfl rfl rfl (.slice (some ⟨W.heap.size, 0, none⟩) x x) (W.alloc (.cells MX 5)) (by go_simp) ?_ AllReady.nil
            · simp only [Act.put, List.setIfInBounds_toArray, List.set_cons_zero, List.set_cons_succ]
              exact key12.out (W.heap.size, g1) _ (⟨hb.alloc hb.size _, Lw.rowB_new W MX x HMX.out.1 HMX.out.2⟩)
          simp only [Act.put, List.setIfInBounds_toArray, List.set_cons_zero, List.set_cons_succ] at key020
          have key02 := Lib.hid key020
          clear key020
          refine Lw.meetA (fun (gs : Nat × Nat) a => ((a.put (some 92) (.slice (some ⟨gs.1, 0, none⟩) x x)).put (some 95) (.slice (some ⟨gs.2, 0, none⟩) y y))) #[true, true, true, false, true, true, false, true, true, true, true, false, false] 4 (fun (gs : Nat × Nat) W => Below D.heap.size D W ∧ Lw.RowB W gs.1 x (fun _ => 0) ∧ Lw.RowB W gs.2 y (fun _ => 0)) ?_ (fun key110 => ?_)
          · rintro ⟨g0, g1⟩ W ⟨hb, r0, r1⟩
            simp only [Act.put, List.setIfInBounds_toArray, List.set_cons_zero, List.set_cons_succ]
            have cv0 := hKX.out W g0 r0
            have cv1 := hKY.out W g1 r1
            refine wpAny_ready (rs := [3, 6]) (by kernel_rfl) (by simp) ?_
            refine ready_one2 (some 93) rfl rfl rfl (.string KX) W (by go_simp) ?_ (ready_one2 (some 96) rfl rfl rfl (.string KY) W (by go_simp) ?_ AllReady.nil)
            · simp only [Act.put, List.setIfInBounds_toArray, List.set_cons_zero, List.set_cons_succ]

              exact key21.out (g0, g1) _ (⟨hb, r1⟩)
            · simp only [Act.put, List.setIfInBounds_toArray, List.set_cons_zero, List.set_cons_succ]

              exact key12.out (g0, g1) _ (⟨hb, r0⟩)
          simp only [Act.put, List.setIfInBounds_toArray, List.set_cons_zero, List.set_cons_succ] at key110
          have key11 := Lib.hid key110
          clear key110
          refine Lw.meetA (fun (gs : Nat × Nat) a => ((a.put (some 92) (.slice (some ⟨gs.1, 0, none⟩) x x)).put (some 93) (.string KX))) #[true, true, true, true, true, false, false, true, true, true, true, false, false] 4 (fun (gs : Nat × Nat) W => Below D.heap.size D W) ?_ (fun key200 => ?_)
          · rintro ⟨g0, g1⟩ W hb
            simp only [Act.put, List.setIfInBounds_toArray, List.set_cons_zero, List.set_cons_succ]
            refine wpAny_ready (rs := [5]) (by kernel_rfl) (by simp) ?_
            refine ready_one2 (some 95) rfl rfl rfl (.slice (some ⟨W.heap.size, 0, none⟩) y y) (W.alloc (.cells MY 5)) (by go_simp) ?_ AllReady.nil
            · simp only [Act.put, List.setIfInBounds_toArray, List.set_cons_zero, List.set_cons_succ]
              exact key21.out (g0, W.heap.size) _ (⟨hb.alloc hb.size _, Lw.rowB_new W MY y HMY.out.1 HMY.out.2⟩)
          simp only [Act.put, List.setIfInBounds_toArray, List.set_cons_zero, List.set_cons_succ] at key200
          have key20 := Lib.hid key200
          clear key200
          refine Lw.meetA (fun (gs : Nat × Nat) a => (a.put (some 95) (.slice (some ⟨gs.2, 0, none⟩) y y))) #[true, true, false, false, true, true, false, true, true, true, true, false, false] 5 (fun (gs : Nat × Nat) W => Below D.heap.size D W ∧ Lw.RowB W gs.2 y (fun _ => 0)) ?_ (fun key010 => ?_)
          · rintro ⟨g0, g1⟩ W ⟨hb, r1⟩
            simp only [Act.put, List.setIfInBounds_toArray, List.set_cons_zero, List.set_cons_succ]
            have cv1 := hKY.out W g1 r1
            refine wpAny_ready (rs := [2, 6]) (by kernel_rfl) (by simp) ?_
            refine ready_one2 (some 92) rfl rfl rfl (.slice (some ⟨W.heap.size, 0, none⟩) x x) (W.alloc (.cells MX 5)) (by go_simp) ?_ (ready_one2 (some 96) rfl rfl rfl (.string KY) W (by go_simp) ?_ AllReady.nil)
            · simp only [Act.put, List.setIfInBounds_toArray, List.set_cons_zero, List.set_cons_succ]
              exact key11.out (W.heap.size, g1) _ (⟨hb.alloc hb.size _, Lw.rowB_new W MX x HMX.out.1 HMX.out.2, World.rowIs.alloc r1 _⟩)
            · simp only [Act.put, List.setIfInBounds_toArray, List.set_cons_zero, List.set_cons_succ]

              exact key02.out (0, g1) _ (hb)
          simp only [Act.put, List.setIfInBounds_toArray, List.set_cons_zero, List.set_cons_succ] at key010
          have key01 := Lib.hid key010
          clear key010
          refine Lw.meetA (fun (gs : Nat × Nat) a => (a.put (some 92) (.slice (some ⟨gs.1, 0, none⟩) x x))) #[true, true, true, false, true, false, false, true, true, true, true, false, false] 5 (fun (gs : Nat × Nat) W => Below D.heap.size D W ∧ Lw.RowB W gs.1 x (fun _ => 0)) ?_ (fun key100 => ?_)
          · rintro ⟨g0, g1⟩ W ⟨hb, r0⟩
            simp only [Act.put, List.setIfInBounds_toArray, List.set_cons_zero, List.set_cons_succ]
            have cv0 := hKX.out W g0 r0
            refine wpAny_ready (rs := [3, 5]) (by kernel_rfl) (by simp) ?_
            refine ready_one2 (some 93) rfl rfl rfl (.string KX) W (by go_simp) ?_ (ready_one2 (some 95) rfl rfl rfl (.slice (some ⟨W.heap.size, 0, none⟩) y y) (W.alloc (.cells MY 5)) (by go_simp) ?_ AllReady.nil)
            · simp only [Act.put, List.setIfInBounds_toArray, List.set_cons_zero, List.set_cons_succ]

              exact key20.out (g0, 0) _ (hb)
            · simp only [Act.put, List.setIfInBounds_toArray, List.set_cons_zero, List.set_cons_succ]
              exact key11.out (g0, W.heap.size) _ (⟨hb.alloc hb.size _, World.rowIs.alloc r0 _, Lw.rowB_new W MY y HMY.out.1 HMY.out.2⟩)
          simp only [Act.put, List.setIfInBounds_toArray, List.set_cons_zero, List.set_cons_succ] at key100
          have key10 := Lib.hid key100
          clear key100
          refine wpAny_ready (rs := [2, 5]) (by kernel_rfl) (by simp) ?_
          refine ready_one2 (some 92) rfl rfl rfl (.slice (some ⟨D.heap.size, 0, none⟩) x x) (D.alloc (.cells MX 5)) (by go_simp) ?_ (ready_one2 (some 95) rfl rfl rfl (.slice (some ⟨D.heap.size, 0, none⟩) y y) (D.alloc (.cells MY 5)) (by go_simp) ?_ AllReady.nil)
          · simp only [Act.put, List.setIfInBounds_toArray, List.set_cons_zero, List.set_cons_succ]
            exact key10.out (D.heap.size, 0) _ (⟨HB.out.alloc HB.out.size _, Lw.rowB_new D MX x HMX.out.1 HMX.out.2⟩)
          · simp only [Act.put, List.setIfInBounds_toArray, List.set_cons_zero, List.set_cons_succ]
            exact key01.out (0, D.heap.size) _ (⟨HB.out.alloc HB.out.size _, Lw.rowB_new D MY y HMY.out.1 HMY.out.2⟩)
        simp only [Act.put, List.setIfInBounds_toArray, List.set_cons_zero, List.set_cons_succ] at key220
        have key22 := Lib.hid key220
        clear key220
        refine Lw.meetA (fun (gs : Nat × Nat) a => ((a.put (some 82) (.slice (some ⟨gs.2, 0, none⟩) 20 20)).put (some 83) (.string Z))) #[true, false, true, true, false, false, false, false, false, false] 7 (fun (gs : Nat × Nat) W => Below D.heap.size D W) ?_ (fun key120 => ?_)
        · rintro ⟨g0, g1⟩ W hb
          simp only [Act.put, List.setIfInBounds_toArray, List.set_cons_zero, List.set_cons_succ]
          have cv0 := Ew.seg_conv HSw.out HT.out hb
          refine wpAny_ready (rs := [1]) (by kernel_rfl) (by simp) ?_
          refine ready_one2 (some 81) rfl rfl rfl (.string V) W (by go_simp) ?_ AllReady.nil
          · simp only [Act.put, List.setIfInBounds_toArray, List.set_cons_zero, List.set_cons_succ]

            exact key22.out (0, g1) _ (hb)
        simp only [Act.put, List.setIfInBounds_toArray, List.set_cons_zero, List.set_cons_succ] at key120
        have key12 := Lib.hid key120
        clear key120
        refine Lw.meetA (fun (gs : Nat × Nat) a => ((a.put (some 81) (.string V)).put (some 82) (.slice (some ⟨gs.2, 0, none⟩) 20 20))) #[true, true, true, false, false, false, false, false, false, false] 7 (fun (gs : Nat × Nat) W => Below D.heap.size D W ∧ Lw.RowB W gs.2 20 (fun _ => 0)) ?_ (fun key210 => ?_)
        · rintro ⟨g0, g1⟩ W ⟨hb, r1⟩
          simp only [Act.put, List.setIfInBounds_toArray, List.set_cons_zero, List.set_cons_succ]
          have cv1 := hKA.out W g1 r1
          refine wpAny_ready (rs := [3]) (by kernel_rfl) (by simp) ?_
          refine ready_one2 (some 83) rfl rfl rfl (.string Z) W (by go_simp) ?_ AllReady.nil
          · simp only [Act.put, List.setIfInBounds_toArray, List.set_cons_zero, List.set_cons_succ]

            exact key22.out (0, g1) _ (hb)
        simp only [Act.put, List.setIfInBounds_toArray, List.set_cons_zero, List.set_cons_succ] at key210
        have key21 := Lib.hid key210
        clear key210
        refine Lw.meetA (fun (gs : Nat × Nat) a => (a.put (some 82) (.slice (some ⟨gs.2, 0, none⟩) 20 20))) #[true, false, true, false, false, false, false, false, false, false] 8 (fun (gs : Nat × Nat) W => Below D.heap.size D W ∧ Lw.RowB W gs.2 20 (fun _ => 0)) ?_ (fun key110 => ?_)
        · rintro ⟨g0, g1⟩ W ⟨hb, r1⟩
          simp only [Act.put, List.setIfInBounds_toArray, List.set_cons_zero, List.set_cons_succ]
          have cv0 := Ew.seg_conv HSw.out HT.out hb
          have cv1 := hKA.out W g1 r1
          refine wpAny_ready (rs := [1, 3]) (by kernel_rfl) (by simp) ?_
          refine ready_one2 (some 81) rfl rfl rfl (.string V) W (by go_simp) ?_ (ready_one2 (some 83) rfl rfl rfl (.string Z) W (by go_simp) ?_ AllReady.nil)
          · simp only [Act.put, List.setIfInBounds_toArray, List.set_cons_zero, List.set_cons_succ]

            exact key21.out (0, g1) _ (⟨hb, r1⟩)
          · simp only [Act.put, List.setIfInBounds_toArray, List.set_cons_zero, List.set_cons_succ]

            exact key12.out (0, g1) _ (hb)
        simp only [Act.put, List.setIfInBounds_toArray, List.set_cons_zero, List.set_cons_succ] at key110
        have key11 := Lib.hid key110
        clear key110
        refine Lw.meetA (fun (gs : Nat × Nat) a => (a.put (some 81) (.string V))) #[true, true, false, false, false, false, false, false, false, false] 8 (fun (gs : Nat × Nat) W => Below D.heap.size D W) ?_ (fun key200 => ?_)
        · rintro ⟨g0, g1⟩ W hb
          simp only [Act.put, List.setIfInBounds_toArray, List.set_cons_zero, List.set_cons_succ]
          refine wpAny_ready (rs := [2]) (by kernel_rfl) (by simp) ?_
          refine ready_one2 (some 82) rfl rfl rfl (.slice (some ⟨W.heap.size, 0, none⟩) 20 20) (W.alloc (.cells MA 5)) (by go_simp) ?_ AllReady.nil
          · simp only [Act.put, List.setIfInBounds_toArray, List.set_cons_zero, List.set_cons_succ]
            exact key21.out (0, W.heap.size) _ (⟨hb.alloc hb.size _, Lw.rowB_new W MA 20 HMA.out.1 HMA.out.2⟩)
        simp only [Act.put, List.setIfInBounds_toArray, List.set_cons_zero, List.set_cons_succ] at key200
        have key20 := Lib.hid key200
        clear key200
        have cv0 := Ew.seg_conv HSw.out HT.out HB.out
        refine wpAny_ready (rs := [1, 2]) (by kernel_rfl) (by simp) ?_
        refine ready_one2 (some 81) rfl rfl rfl (.string V) D (by go_simp) ?_ (ready_one2 (some 82) rfl rfl rfl (.slice (some ⟨D.heap.size, 0, none⟩) 20 20) (D.alloc (.cells MA 5)) (by go_simp) ?_ AllReady.nil)
        · simp only [Act.put, List.setIfInBounds_toArray, List.set_cons_zero, List.set_cons_succ]

          exact key20.out (0, 0) _ (HB.out)
        · simp only [Act.put, List.setIfInBounds_toArray, List.set_cons_zero, List.set_cons_succ]
          exact key11.out (0, D.heap.size) _ (⟨HB.out.alloc HB.out.size _, Lw.rowB_new D MA 20 HMA.out.1 HMA.out.2⟩)
      simp only [Act.put, List.setIfInBounds_toArray, List.set_cons_zero, List.set_cons_succ] at key220
      have key22 := Lib.hid key220
      clear key220
      refine Lw.meetA (fun (gs : Nat × Nat) a => (((a.put (some 68) (.slice (some ⟨gs.1, 0, none⟩) x x)).put (some 71) (.slice (some ⟨gs.2, 0, none⟩) y y)).put (some 72) (.string KY))) #[true, true, true, false, true, true, true, true, true, true, true, false, false, false, false, false, false] 7 (fun (gs : Nat × Nat) W => Below D.heap.size D W ∧ Lw.RowB W gs.1 x (fun _ => 0)) ?_ (fun key120 => ?_)
      · rintro ⟨g0, g1⟩ W ⟨hb, r0⟩
        simp only [Act.put, List.setIfInBounds_toArray, List.set_cons_zero, List.set_cons_succ]
        have cv0 := hKX.out W g0 r0
        refine wpAny_ready (rs := [3]) (by kernel_rfl) (by simp) ?_
        refine ready_one2 (some 69) rfl rfl rfl (.string KX) W (by go_simp) ?_ AllReady.nil
        · simp only [Act.put, List.setIfInBounds_toArray, List.set_cons_zero, List.set_cons_succ]

          exact key22.out (g0, g1) _ (hb)
      simp only [Act.put, List.setIfInBounds_toArray, List.set_cons_zero, List.set_cons_succ] at key120
      have key12 := Lib.hid key120
      clear key120
      refine Lw.meetA (fun (gs : Nat × Nat) a => (((a.put (some 68) (.slice (some ⟨gs.1, 0, none⟩) x x)).put (some 69) (.string KX)).put (some 71) (.slice (some ⟨gs.2, 0, none⟩) y y))) #[true, true, true, true, true, true, false, true, true, true, true, false, false, false, false, false, false] 7 (fun (gs : Nat × Nat) W => Below D.heap.size D W ∧ Lw.RowB W gs.2 y (fun _ => 0)) ?_ (fun key210 => ?_)
      · rintro ⟨g0, g1⟩ W ⟨hb, r1⟩
        simp only [Act.put, List.setIfInBounds_toArray, List.set_cons_zero, List.set_cons_succ]
        have cv1 := hKY.out W g1 r1
        refine wpAny_ready (rs := [6]) (by kernel_rfl) (by simp) ?_
        refine ready_one2 (some 72) rfl rfl rfl (.string KY) W (by go_simp) ?_ AllReady.nil
        · simp only [Act.put, List.setIfInBounds_toArray, List.set_cons_zero, List.set_cons_succ]

          exact key22.out (g0, g1) _ (hb)
      simp only [Act.put, List.setIfInBounds_toArray, List.set_cons_zero, List.set_cons_succ] at key210
      have key21 := Lib.hid key210
      clear key210
      refine Lw.meetA (fun (gs : Nat × Nat) a => ((a.put (some 71) (.slice (some ⟨gs.2, 0, none⟩) y y)).put (some 72) (.string KY))) #[true, true, false, false, true, true, true, true, true, true, true, false, false, false, false, false, false] 8 (fun (gs : Nat × Nat) W => Below D.heap.size D W) ?_ (fun key020 => ?_)
      · rintro ⟨g0, g1⟩ W hb
        simp only [Act.put, List.setIfInBounds_toArray, List.set_cons_zero, List.set_cons_succ]
        refine wpAny_ready (rs := [2]) (by kernel_rfl) (by simp) ?_
        refine ready_one2 (some 68) rfl rfl rfl (.slice (some ⟨W.heap.size, 0, none⟩) x x) (W.alloc (.cells MX 5)) (by go_simp) ?_ AllReady.nil
        · simp only [Act.put, List.setIfInBounds_toArray, List.set_cons_zero, List.set_cons_succ]
          exact key12.out (W.heap.size, g1) _ (⟨hb.alloc hb.size _, Lw.rowB_new W MX x HMX.out.1 HMX.out.2⟩)
      simp only [Act.put, List.setIfInBounds_toArray, List.set_cons_zero, List.set_cons_succ] at key020
      have key02 := Lib.hid key020
      clear key020
      refine Lw.meetA (fun (gs : Nat × Nat) a => ((a.put (some 68) (.slice (some ⟨gs.1, 0, none⟩) x x)).put (some 71) (.slice (some ⟨gs.2, 0, none⟩) y y))) #[true, true, true, false, true, true, false, true, true, true, true, false, false, false, false, false, false] 8 (fun (gs : Nat × Nat) W => Below D.heap.size D W ∧ Lw.RowB W gs.1 x (fun _ => 0) ∧ Lw.RowB W gs.2 y (fun _ => 0)) ?_ (fun key110 => ?_)
      · rintro ⟨g0, g1⟩ W ⟨hb, r0, r1⟩
        simp only [Act.put, List.setIfInBounds_toArray, List.set_cons_zero, List.set_cons_succ]
        have cv0 := hKX.out W g0 r0
        have cv1 := hKY.out W g1 r1
        refine wpAny_ready (rs := [3, 6]) (by kernel_rfl) (by simp) ?_
        refine ready_one2 (some 69) rfl rfl rfl (.string KX) W (by go_simp) ?_ (ready_one2 (some 72) rfl rfl rfl (.string KY) W (by go_simp) ?_ AllReady.nil)
        · simp only [Act.put, List.setIfInBounds_toArray, List.set_cons_zero, List.set_cons_succ]

          exact key21.out (g0, g1) _ (⟨hb, r1⟩)
        · simp only [Act.put, List.setIfInBounds_toArray, List.set_cons_zero, List.set_cons_succ]

          exact key12.out (g0, g1) _ (⟨hb, r0⟩)
      simp only [Act.put, List.setIfInBounds_toArray, List.set_cons_zero, List.set_cons_succ] at key110
      have key11 := Lib.hid key110
      clear key110
      refine Lw.meetA (fun (gs : Nat × Nat) a => ((a.put (some 68) (.slice (some ⟨gs.1, 0, none⟩) x x)).put (some 69) (.string KX))) #[true, true, true, true, true, false, false, true, true, true, true, false, false, false, false, false, false] 8 (fun (gs : Nat × Nat) W => Below D.heap.size D W) ?_ (fun key200 => ?_)
      · rintro ⟨g0, g1⟩ W hb
        simp only [Act.put, List.setIfInBounds_toArray, List.set_cons_zero, List.set_cons_succ]
        refine wpAny_ready (rs := [5]) (by kernel_rfl) (by simp) ?_
        refine ready_one2 (some 71) rfl rfl rfl (.slice (some ⟨W.heap.size, 0, none⟩) y y) (W.alloc (.cells MY 5)) (by go_simp) ?_ AllReady.nil
        · simp only [Act.put, List.setIfInBounds_toArray, List.set_cons_zero, List.set_cons_succ]
          exact key21.out (g0, W.heap.size) _ (⟨hb.alloc hb.size _, Lw.rowB_new W MY y HMY.out.1 HMY.out.2⟩)
      simp only [Act.put, List.setIfInBounds_toArray, List.set_cons_zero, List.set_cons_succ] at key200
      have key20 := Lib.hid key200
      clear key200
      refine Lw.meetA (fun (gs : Nat × Nat) a => (a.put (some 71) (.slice (some ⟨gs.2, 0, none⟩) y y))) #[true, true, false, false, true, true, false, true, true, true, true, false, false, false, false, false, false] 9 (fun (gs : Nat × Nat) W => Below D.heap.size D W ∧ Lw.RowB W gs.2 y (fun _ => 0)) ?_ (fun key010 => ?_)
      · rintro ⟨g0, g1⟩ W ⟨hb, r1⟩
        simp only [Act.put, List.setIfInBounds_toArray, List.set_cons_zero, List.set_cons_succ]
        have cv1 := hKY.out W g1 r1
        refine wpAny_ready (rs := [2, 6]) (by kernel_rfl) (by simp) ?_
        refine ready_one2 (some 68) rfl rfl rfl (.slice (some ⟨W.heap.size, 0, none⟩) x x) (W.alloc (.cells MX 5)) (by go_simp) ?_ (ready_one2 (some 72) rfl rfl rfl (.string KY) W (by go_simp) ?_ AllReady.nil)
        · simp only [Act.put, List.setIfInBounds_toArray, List.set_cons_zero, List.set_cons_succ]
          exact key11.out (W.heap.size, g1) _ (⟨hb.alloc hb.size _, Lw.rowB_new W MX x HMX.out.1 HMX.out.2, World.rowIs.alloc r1 _⟩)
        · simp only [Act.put, List.setIfInBounds_toArray, List.set_cons_zero, List.set_cons_succ]

          exact key02.out (0, g1) _ (hb)
      simp only [Act.put, List.setIfInBounds_toArray, List.set_cons_zero, List.set_cons_succ] at key010
      have key01 := Lib.hid key010
      clear key010
      refine Lw.meetA (fun (gs : Nat × Nat) a => (a.put (some 68) (.slice (some ⟨gs.1, 0, none⟩) x x))) #[true, true, true, false, true, false, false, true, true, true, true, false, false, false, false, false, false] 9 (fun (gs : Nat × Nat) W => Below D.heap.size D W ∧ Lw.RowB W gs.1 x (fun _ => 0)) ?_ (fun key100 => ?_)
      · rintro ⟨g0, g1⟩ W ⟨hb, r0⟩
        simp only [Act.put, List.setIfInBounds_toArray, List.set_cons_zero, List.set_cons_succ]
        have cv0 := hKX.out W g0 r0
        refine wpAny_ready (rs := [3, 5]) (by kernel_rfl) (by simp) ?_
        refine ready_one2 (some 69) rfl rfl rfl (.string KX) W (by go_simp) ?_ (ready_one2 (some 71) rfl rfl rfl (.slice (some ⟨W.heap.size, 0, none⟩) y y) (W.alloc (.cells MY 5)) (by go_simp) ?_ AllReady.nil)
        · simp only [Act.put, List.setIfInBounds_toArray, List.set_cons_zero, List.set_cons_succ]

          exact key20.out (g0, 0) _ (hb)
        · simp only [Act.put, List.setIfInBounds_toArray, List.set_cons_zero, List.set_cons_succ]
          exact key11.out (g0, W.heap.size) _ (⟨hb.alloc hb.size _, World.rowIs.alloc r0 _, Lw.rowB_new W MY y HMY.out.1 HMY.out.2⟩)
      simp only [Act.put, List.setIfInBounds_toArray, List.set_cons_zero, List.set_cons_succ] at key100
      have key10 := Lib.hid key100
      clear key100
      refine wpAny_ready (rs := [2, 5]) (by kernel_rfl) (by simp) ?_
      refine ready_one2 (some 68) rfl rfl rfl (.slice (some ⟨D.heap.size, 0, none⟩) x x) (D.alloc (.cells MX 5)) (by go_simp) ?_ (ready_one2 (some 71) rfl rfl rfl (.slice (some ⟨D.heap.size, 0, none⟩) y y) (D.alloc (.cells MY 5)) (by go_simp) ?_ AllReady.nil)
      · simp only [Act.put, List.setIfInBounds_toArray, List.set_cons_zero, List.set_cons_succ]
        exact key10.out (D.heap.size, 0) _ (⟨HB.out.alloc HB.out.size _, Lw.rowB_new D MX x HMX.out.1 HMX.out.2⟩)
      · simp only [Act.put, List.setIfInBounds_toArray, List.set_cons_zero, List.set_cons_succ]
        exact key01.out (0, D.heap.size) _ (⟨HB.out.alloc HB.out.size _, Lw.rowB_new D MY y HMY.out.1 HMY.out.2⟩)
    simp only [Act.put, List.setIfInBounds_toArray, List.set_cons_zero, List.set_cons_succ] at key220
    have key22 := Lib.hid key220
    clear key220
    refine Lw.meetA (fun (gs : Nat × Nat) a => (((a.put (some 57) (.slice (some ⟨gs.1, 0, none⟩) x x)).put (some 60) (.slice (some ⟨gs.2, 0, none⟩) y y)).put (some 61) (.string KY))) #[true, true, true, false, true, true, true, false, false, false, false, false, false] 7 (fun (gs : Nat × Nat) W => Below D.heap.size D W ∧ Lw.RowB W gs.1 x (fun _ => 0)) ?_ (fun key120 => ?_)
    · rintro ⟨g0, g1⟩ W ⟨hb, r0⟩
      simp only [Act.put, List.setIfInBounds_toArray, List.set_cons_zero, List.set_cons_succ]
      have cv0 := hKX.out W g0 r0
      refine wpAny_ready (rs := [3]) (by kernel_rfl) (by simp) ?_
      refine ready_one2 (some 58) rfl rfl rfl (.string KX) W (by go_simp) ?_ AllReady.nil
      · simp only [Act.put, List.setIfInBounds_toArray, List.set_cons_zero, List.set_cons_succ]

        exact key22.out (g0, g1) _ (hb)
    simp only [Act.put, List.setIfInBounds_toArray, List.set_cons_zero, List.set_cons_succ] at key120
    have key12 := Lib.hid key120
    clear key120
    refine Lw.meetA (fun (gs : Nat × Nat) a => (((a.put (some 57) (.slice (some ⟨gs.1, 0, none⟩) x x)).put (some 58) (.string KX)).put (some 60) (.slice (some ⟨gs.2, 0, none⟩) y y))) #[true, true, true, true, true, true, false, false, false, false, false, false, false] 7 (fun (gs : Nat × Nat) W => Below D.heap.size D W ∧ Lw.RowB W gs.2 y (fun _ => 0)) ?_ (fun key210 => ?_)
    · rintro ⟨g0, g1⟩ W ⟨hb, r1⟩
      simp only [Act.put, List.setIfInBounds_toArray, List.set_cons_zero, List.set_cons_succ]
      have cv1 := hKY.out W g1 r1
      refine wpAny_ready (rs := [6]) (by kernel_rfl) (by simp) ?_
      refine ready_one2 (some 61) rfl rfl rfl (.string KY) W (by go_simp) ?_ AllReady.nil
      · simp only [Act.put, List.setIfInBounds_toArray, List.set_cons_zero, List.set_cons_succ]

        exact key22.out (g0, g1) _ (hb)
    simp only [Act.put, List.setIfInBounds_toArray, List.set_cons_zero, List.set_cons_succ] at key210
    have key21 := Lib.hid key210
    clear key210
    refine Lw.meetA (fun (gs : Nat × Nat) a => ((a.put (some 60) (.slice (some ⟨gs.2, 0, none⟩) y y)).put (some 61) (.string KY))) #[true, true, false, false, true, true, true, false, false, false, false, false, false] 8 (fun (gs : Nat × Nat) W => Below D.heap.size D W) ?_ (fun key020 => ?_)
    · rintro ⟨g0, g1⟩ W hb
      simp only [Act.put, List.setIfInBounds_toArray, List.set_cons_zero, List.set_cons_succ]
      refine wpAny_ready (rs := [2]) (by kernel_rfl) (by simp) ?_
      refine ready_one2 (some 57) rfl rfl rfl (.slice (some ⟨W.heap.size, 0, none⟩) x x) (W.alloc (.cells MX 5)) (by go_simp) ?_ AllReady.nil
      · simp only [Act.put, List.setIfInBounds_toArray, List.set_cons_zero, List.set_cons_succ]
        exact key12.out (W.heap.size, g1) _ (⟨hb.alloc hb.size _, Lw.rowB_new W MX x HMX.out.1 HMX.out.2⟩)
    simp only [Act.put, List.setIfInBounds_toArray, List.set_cons_zero, List.set_cons_succ] at key020
    have key02 := Lib.hid key020
    clear key020
    refine Lw.meetA (fun (gs : Nat × Nat) a => ((a.put (some 57) (.slice (some ⟨gs.1, 0, none⟩) x x)).put (some 60) (.slice (some ⟨gs.2, 0, none⟩) y y))) #[true, true, true, false, true, true, false, false, false, false, false, false, false] 8 (fun (gs : Nat × Nat) W => Below D.heap.size D W ∧ Lw.RowB W gs.1 x (fun _ => 0) ∧ Lw.RowB W gs.2 y (fun _ => 0)) ?_ (fun key110 => ?_)
    · rintro ⟨g0, g1⟩ W ⟨hb, r0, r1⟩
      simp only [Act.put, List.setIfInBounds_toArray, List.set_cons_zero, List.set_cons_succ]
      have cv0 := hKX.out W g0 r0
      have cv1 := hKY.out W g1 r1
      refine wpAny_ready (rs := [3, 6]) (by kernel_rfl) (by simp) ?_
      refine ready_one2 (some 58) rfl rfl rfl (.string KX) W (by go_simp) ?_ (ready_one2 (some 61) rfl rfl rfl (.string KY) W (by go_simp) ?_ AllReady.nil)
      · simp only [Act.put, List.setIfInBounds_toArray, List.set_cons_zero, List.set_cons_succ]

        exact key21.out (g0, g1) _ (⟨hb, r1⟩)
      · simp only [Act.put, List.setIfInBounds_toArray, List.set_cons_zero, List.set_cons_succ]

        exact key12.out (g0, g1) _ (⟨hb, r0⟩)
    simp only [Act.put, List.setIfInBounds_toArray, List.set_cons_zero, List.set_cons_succ] at key110
    have key11 := Lib.hid key110
    clear key110
    refine Lw.meetA (fun (gs : Nat × Nat) a => ((a.put (some 57) (.slice (some ⟨gs.1, 0, none⟩) x x)).put (some 58) (.string KX))) #[true, true, true, true, true, false, false, false, false, false, false, false, false] 8 (fun (gs : Nat × Nat) W => Below D.heap.size D W) ?_ (fun key200 => ?_)
    · rintro ⟨g0, g1⟩ W hb
      simp only [Act.put, List.setIfInBounds_toArray, List.set_cons_zero, List.set_cons_succ]
      refine wpAny_ready (rs := [5]) (by kernel_rfl) (by simp) ?_
      refine ready_one2 (some 60) rfl rfl rfl (.slice (some ⟨W.heap.size, 0, none⟩) y y) (W.alloc (.cells MY 5)) (by go_simp) ?_ AllReady.nil
      · simp only [Act.put, List.setIfInBounds_toArray, List.set_cons_zero, List.set_cons_succ]
        exact key21.out (g0, W.heap.size) _ (⟨hb.alloc hb.size _, Lw.rowB_new W MY y HMY.out.1 HMY.out.2⟩)
    simp only [Act.put, List.setIfInBounds_toArray, List.set_cons_zero, List.set_cons_succ] at key200
    have key20 := Lib.hid key200
    clear key200
    refine Lw.meetA (fun (gs : Nat × Nat) a => (a.put (some 60) (.slice (some ⟨gs.2, 0, none⟩) y y))) #[true, true, false, false, true, true, false, false, false, false, false, false, false] 9 (fun (gs : Nat × Nat) W => Below D.heap.size D W ∧ Lw.RowB W gs.2 y (fun _ => 0)) ?_ (fun key010 => ?_)
    · rintro ⟨g0, g1⟩ W ⟨hb, r1⟩
      simp only [Act.put, List.setIfInBounds_toArray, List.set_cons_zero, List.set_cons_succ]
      have cv1 := hKY.out W g1 r1
      refine wpAny_ready (rs := [2, 6]) (by kernel_rfl) (by simp) ?_
      refine ready_one2 (some 57) rfl rfl rfl (.slice (some ⟨W.heap.size, 0, none⟩) x x) (W.alloc (.cells MX 5)) (by go_simp) ?_ (ready_one2 (some 61) rfl rfl rfl (.string KY) W (by go_simp) ?_ AllReady.nil)
      · simp only [Act.put, List.setIfInBounds_toArray, List.set_cons_zero, List.set_cons_succ]
        exact key11.out (W.heap.size, g1) _ (⟨hb.alloc hb.size _, Lw.rowB_new W MX x HMX.out.1 HMX.out.2, World.rowIs.alloc r1 _⟩)
      · simp only [Act.put, List.setIfInBounds_toArray, List.set_cons_zero, List.set_cons_succ]

        exact key02.out (0, g1) _ (hb)
    simp only [Act.put, List.setIfInBounds_toArray, List.set_cons_zero, List.set_cons_succ] at key010
    have key01 := Lib.hid key010
    clear key010
    refine Lw.meetA (fun (gs : Nat × Nat) a => (a.put (some 57) (.slice (some ⟨gs.1, 0, none⟩) x x))) #[true, true, true, false, true, false, false, false, false, false, false, false, false] 9 (fun (gs : Nat × Nat) W => Below D.heap.size D W ∧ Lw.RowB W gs.1 x (fun _ => 0)) ?_ (fun key100 => ?_)
    · rintro ⟨g0, g1⟩ W ⟨hb, r0⟩
      simp only [Act.put, List.setIfInBounds_toArray, List.set_cons_zero, List.set_cons_succ]
      have cv0 := hKX.out W g0 r0
      refine wpAny_ready (rs := [3, 5]) (by kernel_rfl) (by simp) ?_
      refine ready_one2 (some 58) rfl rfl rfl (.string KX) W (by go_simp) ?_ (ready_one2 (some 60) rfl rfl rfl (.slice (some ⟨W.heap.size, 0, none⟩) y y) (W.alloc (.cells MY 5)) (by go_simp) ?_ AllReady.nil)
      · simp only [Act.put, List.setIfInBounds_toArray, List.set_cons_zero, List.set_cons_succ]

        exact key20.out (g0, 0) _ (hb)
      · simp only [Act.put, List.setIfInBounds_toArray, List.set_cons_zero, List.set_cons_succ]
        exact key11.out (g0, W.heap.size) _ (⟨hb.alloc hb.size _, World.rowIs.alloc r0 _, Lw.rowB_new W MY y HMY.out.1 HMY.out.2⟩)
    simp only [Act.put, List.setIfInBounds_toArray, List.set_cons_zero, List.set_cons_succ] at key100
    have key10 := Lib.hid key100
    clear key100
    refine wpAny_ready (rs := [2, 5]) (by kernel_rfl) (by simp) ?_
    refine ready_one2 (some 57) rfl rfl rfl (.slice (some ⟨D.heap.size, 0, none⟩) x x) (D.alloc (.cells MX 5)) (by go_simp) ?_ (ready_one2 (some 60) rfl rfl rfl (.slice (some ⟨D.heap.size, 0, none⟩) y y) (D.alloc (.cells MY 5)) (by go_simp) ?_ AllReady.nil)
    · simp only [Act.put, List.setIfInBounds_toArray, List.set_cons_zero, List.set_cons_succ]
      exact key10.out (D.heap.size, 0) _ (⟨HB.out.alloc HB.out.size _, Lw.rowB_new D MX x HMX.out.1 HMX.out.2⟩)
    · simp only [Act.put, List.setIfInBounds_toArray, List.set_cons_zero, List.set_cons_succ]
      exact key01.out (0, D.heap.size) _ (⟨HB.out.alloc HB.out.size _, Lw.rowB_new D MY y HMY.out.1 HMY.out.2⟩)
  rotate_left 3
  by_cases hl : 4865 ≤ z
  all_goals
    subst V
    try have c1 : ((4865 : Int) ≤ z) = True := eq_true (by omega)
    try have c1 : ((4865 : Int) ≤ z) = False := eq_false (by omega)
    try have c2 : (z ≤ (4867 : Int)) = True := eq_true (by omega)
    try have c2 : (z ≤ (4867 : Int)) = False := eq_false (by omega)
    try have k1 : ((x : Int) == KK) = true := by simpa using hk
    try have k1 : ((x : Int) == KK) = false := by simpa using hk
    try have y1 : ((y : Int) == 12) = true := by simp; omega
    try have y1 : ((y : Int) == 12) = false := by simp; omega
    try clear hz
    try clear hk
    try clear hn
    try clear hl
    clear hz0
    have HE0 := Lib.hid hE0
    have HE1 := Lib.hid hE1
    have HE2 := Lib.hid hE2
    have HE3 := Lib.hid hE3
    clear hE0 hE1 hE2 hE3
    go_enter Try.func5, Try.ntmps5
    go_wp2_with (go_at_call 7; fail)
    refine (Ew.awake8_any _).mono ?_
    rintro e u ⟨rfl, hb⟩
    have HB := Lib.hid (Lw.go_on HB.out hb)
    clear hb
    go_wp2_with (go_at_call 8; fail)
    refine (kZ.out _).mono ?_
    rintro e u0 ⟨rfl, hb⟩
    have HB := Lib.hid (Lw.go_on HB.out hb)
    clear hb kZ
    go_upto_region 9 with (fail)
    have HS := Lib.hid (HSx.out u0)
    have HGx : Hid (w.heap.size ≤ u0.heap.size) := HB.out.size
    have HB : Hid (Below w.heap.size w (u0.alloc (.cells MA 5))) := HB.out.alloc HGx.out _
    clear HSx
    generalize u0.alloc (.cells MA 5) = u1 at HS HB ⊢
    generalize u0.heap.size = gx at HS HGx ⊢
    have kO := Lib.hid (kO.out gx)
    have kI := Lib.hid (kI.out gx)
    go_upto_region 9 with (fail)
    refine wp_region_any (by kernel_rfl) ?_
    change wpAny _ _ _ _ _ _ _ u1.drew
    have HBw : Hid (Below (w.heap.size) w u1.drew) := HB.out.drew
    have HSw := Lib.hid (HS.out.drew)
    clear HB
    generalize u1.drew = D at HBw HSw ⊢
    have HB : Hid (Below D.heap.size D D) := Below.refl _ _
    refine Lw.take_to (i := 0) (some 55) (.int .i64 z) rfl rfl (by kernel_rfl) (by kernel_rfl) (by kernel_rfl) (fun _ _ _ h => h) (Or.inl ⟨by rfl, fun w => by go_simp⟩) ?_
    simp only [Act.put, List.setIfInBounds_toArray, List.set_cons_zero, List.set_cons_succ]
    refine Lw.take_to (i := 1) (some 56) (.int .i64 (x : Int)) rfl rfl (by kernel_rfl) (by kernel_rfl) (by kernel_rfl) (fun _ _ _ h => h) (Or.inl ⟨by rfl, fun w => by go_simp⟩) ?_
    simp only [Act.put, List.setIfInBounds_toArray, List.set_cons_zero, List.set_cons_succ]
    refine Lw.take_to (i := 4) (some 59) (.int .i64 (y : Int)) rfl rfl (by kernel_rfl) (by kernel_rfl) (by kernel_rfl) (fun _ _ _ h => h) (Or.inl ⟨by rfl, fun w => by go_simp⟩) ?_
    simp only [Act.put, List.setIfInBounds_toArray, List.set_cons_zero, List.set_cons_succ]
    refine Lw.meetA (fun (gs : Nat × Nat) a => ((((a.put (some 57) (.slice (some ⟨gs.1, 0, none⟩) x x)).put (some 58) (.string KX)).put (some 60) (.slice (some ⟨gs.2, 0, none⟩) y y)).put (some 61) (.string KY))) #[true, true, true, true, true, true, true, false, false, false, false, false, false] 6 (fun (gs : Nat × Nat) W => Below D.heap.size D W) ?_ (fun key220 => ?_)
    · rintro ⟨g0, g1⟩ W hb
      simp only [Act.put, List.setIfInBounds_toArray, List.set_cons_zero, List.set_cons_succ]
      have HB := Lib.hid hb
      clear hb
      refine wpAny_ready (rs := [7]) (by kernel_rfl) (by simp) ?_
      refine ready_call2 (some 62) rfl rfl rfl 10 _ _ rfl (fun _ _ => by go_simp) #[.int .i64 z, .string KX, .string KY, .string ⟨#[]⟩, .string ⟨#[97]⟩] (by kernel_rfl) ?_ AllReady.nil
      refine (kS.out _).mono ?_
      rintro e v ⟨rfl, hb⟩
      refine ⟨_, rfl, ?_⟩
      have hbD : Below D.heap.size D v := HB.out.trans (hb.mono HB.out.size)
      clear HB
      have HS := Lib.hid (HSw.out.on hbD)
      have HB : Hid (Below w.heap.size w v) := Lw.go_on HBw.out hbD
      clear hb hbD HBw HSw
      simp only [Act.put, List.setIfInBounds_toArray, List.set_cons_zero, List.set_cons_succ]
      refine Lw.take_to (i := 8) (some 54) (.tuple #[.string T1, .int .i64 E1]) rfl rfl (by kernel_rfl) (by kernel_rfl) (by kernel_rfl) (fun _ _ _ h => h) (Or.inl ⟨by rfl, fun w => by go_simp⟩) ?_
      simp only [Act.put, List.setIfInBounds_toArray, List.set_cons_zero, List.set_cons_succ]
      refine Lw.take_to (i := 9) (some 63) (.string T1) rfl rfl (by kernel_rfl) (by kernel_rfl) (by kernel_rfl) (fun _ _ _ h => h) (Or.inl ⟨by rfl, fun w => by go_simp⟩) ?_
      simp only [Act.put, List.setIfInBounds_toArray, List.set_cons_zero, List.set_cons_succ]
      refine Lw.take_to (i := 10) (some 64) (.int .i64 E1) rfl rfl (by kernel_rfl) (by kernel_rfl) (by kernel_rfl) (fun _ _ _ h => h) (Or.inl ⟨by rfl, fun w => by go_simp⟩) ?_
      simp only [Act.put, List.setIfInBounds_toArray, List.set_cons_zero, List.set_cons_succ]
      refine Lw.take_to (i := 11) (some 16) (.string T1) rfl rfl (by kernel_rfl) (by kernel_rfl) (by kernel_rfl) (fun _ _ _ h => h) (Or.inl ⟨by rfl, fun w => by go_simp⟩) ?_
      simp only [Act.put, List.setIfInBounds_toArray, List.set_cons_zero, List.set_cons_succ]
      refine Lw.take_to (i := 12) (some 17) (.int .i64 E1) rfl rfl (by kernel_rfl) (by kernel_rfl) (by kernel_rfl) (fun _ _ _ h => h) (Or.inl ⟨by rfl, fun w => by go_simp⟩) ?_
      simp only [Act.put, List.setIfInBounds_toArray, List.set_cons_zero, List.set_cons_succ]
      refine wpAny_done (by kernel_rfl) ?_ _
      go_upto_region 10 with (fail)
      refine wp_region_any (by kernel_rfl) ?_
      change wpAny _ _ _ _ _ _ _ v.drew
      have HBw : Hid (Below (w.heap.size) w v.drew) := HB.out.drew
      have HSw := Lib.hid (HS.out.drew)
      clear HB
      generalize v.drew = D at HBw HSw ⊢
      have HB : Hid (Below D.heap.size D D) := Below.refl _ _
      refine Lw.take_to (i := 0) (some 66) (.int .i64 z) rfl rfl (by kernel_rfl) (by kernel_rfl) (by kernel_rfl) (fun _ _ _ h => h) (Or.inl ⟨by rfl, fun w => by go_simp⟩) ?_
      simp only [Act.put, List.setIfInBounds_toArray, List.set_cons_zero, List.set_cons_succ]
      refine Lw.take_to (i := 1) (some 67) (.int .i64 (x : Int)) rfl rfl (by kernel_rfl) (by kernel_rfl) (by kernel_rfl) (fun _ _ _ h => h) (Or.inl ⟨by rfl, fun w => by go_simp⟩) ?_
      simp only [Act.put, List.setIfInBounds_toArray, List.set_cons_zero, List.set_cons_succ]
      refine Lw.take_to (i := 4) (some 70) (.int .i64 (y : Int)) rfl rfl (by kernel_rfl) (by kernel_rfl) (by kernel_rfl) (fun _ _ _ h => h) (Or.inl ⟨by rfl, fun w => by go_simp⟩) ?_
      simp only [Act.put, List.setIfInBounds_toArray, List.set_cons_zero, List.set_cons_succ]
      refine Lw.take_to (i := 7) (some 73) (.slice (some ⟨gx, 0, none⟩) 20 20) rfl rfl (by kernel_rfl) (by kernel_rfl) (by kernel_rfl) (fun _ _ _ h => h) (Or.inl ⟨by rfl, fun w => by go_simp⟩) ?_
      simp only [Act.put, List.setIfInBounds_toArray, List.set_cons_zero, List.set_cons_succ]
      refine Lw.take_to (i := 8) (some 74) (.slice (some ⟨gx, 0, none⟩) 7 20) rfl rfl (by kernel_rfl) (by kernel_rfl) (by kernel_rfl) (fun _ _ _ h => h) (Or.inl ⟨by rfl, fun w => by go_simp⟩) ?_
      simp only [Act.put, List.setIfInBounds_toArray, List.set_cons_zero, List.set_cons_succ]
      refine Lw.take_to (i := 9) (some 75) (.slice (some ⟨gx, 0, none⟩) 20 20) rfl rfl (by kernel_rfl) (by kernel_rfl) (by kernel_rfl) (fun _ _ _ h => h) (Or.inl ⟨by rfl, fun w => by go_simp⟩) ?_
      simp only [Act.put, List.setIfInBounds_toArray, List.set_cons_zero, List.set_cons_succ]
      refine Lw.take_to (i := 10) (some 76) (.slice (some ⟨gx, 7, none⟩) 13 13) rfl rfl (by kernel_rfl) (by kernel_rfl) (by kernel_rfl) (fun _ _ _ h => h) (Or.inl ⟨by rfl, fun w => by go_simp⟩) ?_
      simp only [Act.put, List.setIfInBounds_toArray, List.set_cons_zero, List.set_cons_succ]
      refine Lw.meetA (fun (gs : Nat × Nat) a => ((((a.put (some 68) (.slice (some ⟨gs.1, 0, none⟩) x x)).put (some 69) (.string KX)).put (some 71) (.slice (some ⟨gs.2, 0, none⟩) y y)).put (some 72) (.string KY))) #[true, true, true, true, true, true, true, true, true, true, true, false, false, false, false, false, false] 6 (fun (gs : Nat × Nat) W => Below D.heap.size D W) ?_ (fun key220 => ?_)
      · rintro ⟨g0, g1⟩ W hb
        simp only [Act.put, List.setIfInBounds_toArray, List.set_cons_zero, List.set_cons_succ]
        have HB := Lib.hid hb
        clear hb
        refine wpAny_ready (rs := [11]) (by kernel_rfl) (by simp) ?_
        refine ready_call2 (some 77) rfl rfl rfl 12 _ _ rfl (fun _ _ => by go_simp) #[.int .i64 z, .string KX, .string KY, .string ⟨#[]⟩, .slice (some ⟨gx, 0, none⟩) 7 20, .slice (some ⟨gx, 7, none⟩) 13 13] (by kernel_rfl) ?_ AllReady.nil
        refine (kO.out _ (HSw.out.on HB.out)).mono ?_
        rintro e v ⟨rfl, hbut, Y, hY, hYt⟩
        refine ⟨_, rfl, ?_⟩
        have hbw := Lw.go_on HBw.out HB.out
        clear HB
        have HB : Hid (Below w.heap.size w v) := hbut.below hbw HGx.out hbw.size
        have HS := Lib.hid hY
        have HT := Lib.hid hYt
        clear hbut hbw hY hYt HBw HSw
        simp only [Act.put, List.setIfInBounds_toArray, List.set_cons_zero, List.set_cons_succ]
        refine Lw.take_to (i := 12) (some 65) (.tuple #[.int .i64 n2, .int .i64 E2]) rfl rfl (by kernel_rfl) (by kernel_rfl) (by kernel_rfl) (fun _ _ _ h => h) (Or.inl ⟨by rfl, fun w => by go_simp⟩) ?_
        simp only [Act.put, List.setIfInBounds_toArray, List.set_cons_zero, List.set_cons_succ]
        refine Lw.take_to (i := 13) (some 78) (.int .i64 n2) rfl rfl (by kernel_rfl) (by kernel_rfl) (by kernel_rfl) (fun _ _ _ h => h) (Or.inl ⟨by rfl, fun w => by go_simp⟩) ?_
        simp only [Act.put, List.setIfInBounds_toArray, List.set_cons_zero, List.set_cons_succ]
        refine Lw.take_to (i := 14) (some 79) (.int .i64 E2) rfl rfl (by kernel_rfl) (by kernel_rfl) (by kernel_rfl) (fun _ _ _ h => h) (Or.inl ⟨by rfl, fun w => by go_simp⟩) ?_
        simp only [Act.put, List.setIfInBounds_toArray, List.set_cons_zero, List.set_cons_succ]
        refine Lw.take_to (i := 15) (some 18) (.int .i64 n2) rfl rfl (by kernel_rfl) (by kernel_rfl) (by kernel_rfl) (fun _ _ _ h => h) (Or.inl ⟨by rfl, fun w => by go_simp⟩) ?_
        simp only [Act.put, List.setIfInBounds_toArray, List.set_cons_zero, List.set_cons_succ]
        refine Lw.take_to (i := 16) (some 19) (.int .i64 E2) rfl rfl (by kernel_rfl) (by kernel_rfl) (by kernel_rfl) (fun _ _ _ h => h) (Or.inl ⟨by rfl, fun w => by go_simp⟩) ?_
        simp only [Act.put, List.setIfInBounds_toArray, List.set_cons_zero, List.set_cons_succ]
        refine wpAny_done (by kernel_rfl) ?_ _
        go_upto_region 11 with (fail)
        refine wp_region_any (by kernel_rfl) ?_
        change wpAny _ _ _ _ _ _ _ v.drew
        have HBw : Hid (Below (w.heap.size) w v.drew) := HB.out.drew
        have HSw := Lib.hid (HS.out.drew)
        clear HB
        generalize v.drew = D at HBw HSw ⊢
        have HB : Hid (Below D.heap.size D D) := Below.refl _ _
        refine Lw.take_to (i := 0) (some 80) (.slice (some ⟨gx, 0, none⟩) 20 20) rfl rfl (by kernel_rfl) (by kernel_rfl) (by kernel_rfl) (fun _ _ _ h => h) (Or.inl ⟨by rfl, fun w => by go_simp⟩) ?_
        simp only [Act.put, List.setIfInBounds_toArray, List.set_cons_zero, List.set_cons_succ]
        refine Lw.meetA (fun (gs : Nat × Nat) a => (((a.put (some 81) (.string Z)).put (some 82) (.slice (some ⟨gs.2, 0, none⟩) 20 20)).put (some 83) (.string Z))) #[true, true, true, true, false, false, false, false, false, false] 6 (fun (gs : Nat × Nat) W => Below D.heap.size D W) ?_ (fun key220 => ?_)
        · rintro ⟨g0, g1⟩ W hb
          simp only [Act.put, List.setIfInBounds_toArray, List.set_cons_zero, List.set_cons_succ]
          have HB := Lib.hid hb
          clear hb
          have HBn : Hid (Below (w.heap.size) w W) := Lw.go_on HBw.out HB.out
          have HS := Lib.hid (HSw.out.on HB.out)
          clear HB
          have HB := HBn
          clear HBn HBw HSw
          refine Lw.take_to (i := 4) (some 84) (.bool false) rfl rfl (by kernel_rfl) (by kernel_rfl) (by kernel_rfl) (fun _ _ _ h => h) (Or.inl ⟨by rfl, fun w => by go_simp⟩) ?_
          simp only [Act.put, List.setIfInBounds_toArray, List.set_cons_zero, List.set_cons_succ]
          refine Lw.take_to (i := 5) (some 85) (.bool false) rfl rfl (by kernel_rfl) (by kernel_rfl) (by kernel_rfl) (fun _ _ _ h => h) (Or.inl ⟨by rfl, fun w => by go_simp⟩) ?_
          simp only [Act.put, List.setIfInBounds_toArray, List.set_cons_zero, List.set_cons_succ]
          refine Lw.take_to (i := 6) (some 86) undef rfl rfl (by kernel_rfl) (by kernel_rfl) (by kernel_rfl) (fun _ _ _ h => h) (Or.inr ⟨by rfl, rfl⟩) ?_
          simp only [Act.put, List.setIfInBounds_toArray, List.set_cons_zero, List.set_cons_succ]
          refine Lw.take_to (i := 7) (some 87) undef rfl rfl (by kernel_rfl) (by kernel_rfl) (by kernel_rfl) (fun _ _ _ h => h) (Or.inr ⟨by rfl, rfl⟩) ?_
          simp only [Act.put, List.setIfInBounds_toArray, List.set_cons_zero, List.set_cons_succ]
          refine Lw.take_to (i := 8) (some 88) undef rfl rfl (by kernel_rfl) (by kernel_rfl) (by kernel_rfl) (fun _ _ _ h => h) (Or.inr ⟨by rfl, rfl⟩) ?_
          simp only [Act.put, List.setIfInBounds_toArray, List.set_cons_zero, List.set_cons_succ]
          refine Lw.take_to (i := 9) (some 89) (.bool false) rfl rfl (by kernel_rfl) (by kernel_rfl) (by kernel_rfl) (fun _ _ _ h => h) (Or.inl ⟨by rfl, fun w => by go_simp⟩) ?_
          simp only [Act.put, List.setIfInBounds_toArray, List.set_cons_zero, List.set_cons_succ]
          refine wpAny_done (by kernel_rfl) ?_ _
          go_upto_region 13 with (fail)
          refine wp_region_any (by kernel_rfl) ?_
          change wpAny _ _ _ _ _ _ _ W.drew
          have HBw : Hid (Below (w.heap.size) w W.drew) := HB.out.drew
          have HSw := Lib.hid (HS.out.drew)
          clear HB
          generalize W.drew = D at HBw HSw ⊢
          have HB : Hid (Below D.heap.size D D) := Below.refl _ _
          refine Lw.take_to (i := 0) (some 90) (.int .i64 z) rfl rfl (by kernel_rfl) (by kernel_rfl) (by kernel_rfl) (fun _ _ _ h => h) (Or.inl ⟨by rfl, fun w => by go_simp⟩) ?_
          simp only [Act.put, List.setIfInBounds_toArray, List.set_cons_zero, List.set_cons_succ]
          refine Lw.take_to (i := 1) (some 91) (.int .i64 (x : Int)) rfl rfl (by kernel_rfl) (by kernel_rfl) (by kernel_rfl) (fun _ _ _ h => h) (Or.inl ⟨by rfl, fun w => by go_simp⟩) ?_
          simp only [Act.put, List.setIfInBounds_toArray, List.set_cons_zero, List.set_cons_succ]
          refine Lw.take_to (i := 4) (some 94) (.int .i64 (y : Int)) rfl rfl (by kernel_rfl) (by kernel_rfl) (by kernel_rfl) (fun _ _ _ h => h) (Or.inl ⟨by rfl, fun w => by go_simp⟩) ?_
          simp only [Act.put, List.setIfInBounds_toArray, List.set_cons_zero, List.set_cons_succ]
          refine Lw.take_to (i := 7) (some 97) (.slice (some ⟨gx, 0, none⟩) 20 20) rfl rfl (by kernel_rfl) (by kernel_rfl) (by kernel_rfl) (fun _ _ _ h => h) (Or.inl ⟨by rfl, fun w => by go_simp⟩) ?_
          simp only [Act.put, List.setIfInBounds_toArray, List.set_cons_zero, List.set_cons_succ]
          refine Lw.take_to (i := 8) (some 98) (.slice (some ⟨gx, 0, none⟩) 3 20) rfl rfl (by kernel_rfl) (by kernel_rfl) (by kernel_rfl) (fun _ _ _ h => h) (Or.inl ⟨by rfl, fun w => by go_simp⟩) ?_
          simp only [Act.put, List.setIfInBounds_toArray, List.set_cons_zero, List.set_cons_succ]
          refine Lw.take_to (i := 9) (some 99) (.slice (some ⟨gx, 0, none⟩) 20 20) rfl rfl (by kernel_rfl) (by kernel_rfl) (by kernel_rfl) (fun _ _ _ h => h) (Or.inl ⟨by rfl, fun w => by go_simp⟩) ?_
          simp only [Act.put, List.setIfInBounds_toArray, List.set_cons_zero, List.set_cons_succ]
          refine Lw.take_to (i := 10) (some 100) (.slice (some ⟨gx, 3, none⟩) 17 17) rfl rfl (by kernel_rfl) (by kernel_rfl) (by kernel_rfl) (fun _ _ _ h => h) (Or.inl ⟨by rfl, fun w => by go_simp⟩) ?_
          simp only [Act.put, List.setIfInBounds_toArray, List.set_cons_zero, List.set_cons_succ]
          refine Lw.meetA (fun (gs : Nat × Nat) a => ((((a.put (some 92) (.slice (some ⟨gs.1, 0, none⟩) x x)).put (some 93) (.string KX)).put (some 95) (.slice (some ⟨gs.2, 0, none⟩) y y)).put (some 96) (.string KY))) #[true, true, true, true, true, true, true, true, true, true, true, false, false] 2 (fun (gs : Nat × Nat) W => Below D.heap.size D W) ?_ (fun key220 => ?_)
          · rintro ⟨g0, g1⟩ W hb
            simp only [Act.put, List.setIfInBounds_toArray, List.set_cons_zero, List.set_cons_succ]
            have HB := Lib.hid hb
            clear hb
            refine wpAny_ready (rs := [11]) (by kernel_rfl) (by simp) ?_
            refine ready_call2 (some 101) rfl rfl rfl 9 _ _ rfl (fun _ _ => by go_simp) #[.int .i64 z, .string KX, .string KY, .string ⟨#[]⟩, .slice (some ⟨gx, 0, none⟩) 3 20, .slice (some ⟨gx, 3, none⟩) 17 17] (by kernel_rfl) ?_ AllReady.nil
            refine (kI.out _ _ (HSw.out.on HB.out) HT.out).mono ?_
            rintro e v ⟨rfl, hbut, Y, hY, hYt⟩
            refine ⟨_, rfl, ?_⟩
            have hbw := Lw.go_on HBw.out HB.out
            clear HB
            have HB : Hid (Below w.heap.size w v) := hbut.below hbw HGx.out hbw.size
            have HS := Lib.hid hY
            have HT := Lib.hid hYt
            clear hbut hbw hY hYt HBw HSw
            simp only [Act.put, List.setIfInBounds_toArray, List.set_cons_zero, List.set_cons_succ]
            refine Lw.take_to (i := 12) (some 20) (.int .i64 E3) rfl rfl (by kernel_rfl) (by kernel_rfl) (by kernel_rfl) (fun _ _ _ h => h) (Or.inl ⟨by rfl, fun w => by go_simp⟩) ?_
            simp only [Act.put, List.setIfInBounds_toArray, List.set_cons_zero, List.set_cons_succ]
            refine wpAny_done (by kernel_rfl) ?_ _
            have hE0 := HE0.out
            have hE1 := HE1.out
            have hE2 := HE2.out
            have hE3 := HE3.out
            subst hE0
            subst hE1
            subst hE2
            subst hE3
            go_wp2_with (go_at_call 11; refine (Lw.num_same _ _).mono ?_; rintro e u ⟨rfl, rfl⟩)
            go_ret
            exact ⟨rfl, HB.out⟩
          simp only [Act.put, List.setIfInBounds_toArray, List.set_cons_zero, List.set_cons_succ] at key220
          have key22 := Lib.hid key220
          clear key220
          refine Lw.meetA (fun (gs : Nat × Nat) a => (((a.put (some 92) (.slice (some ⟨gs.1, 0, none⟩) x x)).put (some 95) (.slice (some ⟨gs.2, 0, none⟩) y y)).put (some 96) (.string KY))) #[true, true, true, false, true, true, true, true, true, true, true, false, false] 3 (fun (gs : Nat × Nat) W => Below D.heap.size D W ∧ Lw.RowB W gs.1 x (fun _ => 0)) ?_ (fun key120 => ?_)
          · rintro ⟨g0, g1⟩ W ⟨hb, r0⟩
            simp only [Act.put, List.setIfInBounds_toArray, List.set_cons_zero, List.set_cons_succ]
            have cv0 := hKX.out W g0 r0
            refine wpAny_ready (rs := [3]) (by kernel_rfl) (by simp) ?_
            refine ready_one2 (some 93) rfl rfl rfl (.string KX) W (by go_simp) ?_ AllReady.nil
            · simp only [Act.put, List.setIfInBounds_toArray, List.set_cons_zero, List.set_cons_succ]

              exact key22.out (g0, g1) _ (hb)
          simp only [Act.put, List.setIfInBounds_toArray, List.set_cons_zero, List.set_cons_succ] at key120
          have key12 := Lib.hid key120
          clear key120
          refine Lw.meetA (fun (gs : Nat × Nat) a => (((a.put (some 92) (.slice (some ⟨gs.1, 0, none⟩) x x)).put (some 93) (.string KX)).put (some 95) (.slice (some ⟨gs.2, 0, none⟩) y y))) #[true, true, true, true, true, true, false, true, true, true, true, false, false] 3 (fun (gs : Nat × Nat) W => Below D.heap.size D W ∧ Lw.RowB W gs.2 y (fun _ => 0)) ?_ (fun key210 => ?_)
          · rintro ⟨g0, g1⟩ W ⟨hb, r1⟩
            simp only [Act.put, List.setIfInBounds_toArray, List.set_cons_zero, List.set_cons_succ]
            have cv1 := hKY.out W g1 r1
            refine wpAny_ready (rs := [6]) (by kernel_rfl) (by simp) ?_
            refine ready_one2 (some 96) rfl rfl rfl (.string KY) W (by go_simp) ?_ AllReady.nil
            · simp only [Act.put, List.setIfInBounds_toArray, List.set_cons_zero, List.set_cons_succ]

              exact key22.out (g0, g1) _ (hb)
          simp only [Act.put, List.setIfInBounds_toArray, List.set_cons_zero, List.set_cons_succ] at key210
          have key21 := Lib.hid key210
          clear key210
          refine Lw.meetA (fun (gs : Nat × Nat) a => ((a.put (some 95) (.slice (some ⟨gs.2, 0, none⟩) y y)).put (some 96) (.string KY))) #[true, true, false, false, true, true, true, true, true, true, true, false, false] 4 (fun (gs : Nat × Nat) W => Below D.heap.size D W) ?_ (fun key020 => ?_)
          · rintro ⟨g0, g1⟩ W hb
            simp only [Act.put, List.setIfInBounds_toArray, List.set_cons_zero, List.set_cons_succ]
            refine wpAny_ready (rs := [2]) (by kernel_rfl) (by simp) ?_
            refine ready_one2 (some 92) rfl rfl rfl (.slice (some ⟨W.heap.size, 0, none⟩) x x) (W.alloc (.cells MX 5)) (by go_simp) ?_ AllReady.nil
            · simp only [Act.put, List.setIfInBounds_toArray, List.set_cons_zero, List.set_cons_succ]
              exact key12.out (W.heap.size, g1) _ (⟨hb.alloc hb.size _, Lw.rowB_new W MX x HMX.out.1 HMX.out.2⟩)
          simp only [Act.put, List.setIfInBounds_toArray, List.set_cons_zero, List.set_cons_succ] at key020
          have key02 := Lib.hid key020
          clear key020
          refine Lw.meetA (fun (gs : Nat × Nat) a => ((a.put (some 92) (.slice (some ⟨gs.1, 0, none⟩) x x)).put (some 95) (.slice (some ⟨gs.2, 0, none⟩) y y))) #[true, true, true, false, true, true, false, true, true, true, true, false, false] 4 (fun (gs : Nat × Nat) W => Below D.heap.size D W ∧ Lw.RowB W gs.1 x (fun _ => 0) ∧ Lw.RowB W gs.2 y (fun _ => 0)) ?_ (fun key110 => ?_)
          · rintro ⟨g0, g1⟩ W ⟨hb, r0, r1⟩
            simp only [Act.put, List.setIfInBounds_toArray, List.set_cons_zero, List.set_cons_succ]
            have cv0 := hKX.out W g0 r0
            have cv1 := hKY.out W g1 r1
            refine wpAny_ready (rs := [3, 6]) (by kernel_rfl) (by simp) ?_
            refine ready_one2 (some 93) rfl rfl rfl (.string KX) W (by go_simp) ?_ (ready_one2 (some 96) rfl rfl rfl (.string KY) W (by go_simp) ?_ AllReady.nil)
            · simp only [Act.put, List.setIfInBounds_toArray, List.set_cons_zero, List.set_cons_succ]

              exact key21.out (g0, g1) _ (⟨hb, r1⟩)
            · simp only [Act.put, List.setIfInBounds_toArray, List.set_cons_zero, List.set_cons_succ]

              exact key12.out (g0, g1) _ (⟨hb, r0⟩)
          simp only [Act.put, List.setIfInBounds_toArray, List.set_cons_zero, List.set_cons_succ] at key110
          have key11 := Lib.hid key110
          clear key110
          refine Lw.meetA (fun (gs : Nat × Nat) a => ((a.put (some 92) (.slice (some ⟨gs.1, 0, none⟩) x x)).put (some 93) (.string KX))) #[true, true, true, true, true, false, false, true, true, true, true, false, false] 4 (fun (gs : Nat × Nat) W => Below D.heap.size D W) ?_ (fun key200 => ?_)
          · rintro ⟨g0, g1⟩ W hb
            simp only [Act.put, List.setIfInBounds_toArray, List.set_cons_zero, List.set_cons_succ]
            refine wpAny_ready (rs := [5]) (by kernel_rfl) (by simp) ?_
            refine ready_one2 (some 95) rfl rfl rfl (.slice (some ⟨W.heap.size, 0, none⟩) y y) (W.alloc (.cells MY 5)) (by go_simp) ?_ AllReady.nil
            · simp only [Act.put, List.setIfInBounds_toArray, List.set_cons_zero, List.set_cons_succ]
              exact key21.out (g0, W.heap.size) _ (⟨hb.alloc hb.size _, Lw.rowB_new W MY y HMY.out.1 HMY.out.2⟩)
          simp only [Act.put, List.setIfInBounds_toArray, List.set_cons_zero, List.set_cons_succ] at key200
          have key20 := Lib.hid key200
          clear key200
          refine Lw.meetA (fun (gs : Nat × Nat) a => (a.put (some 95) (.slice (some ⟨gs.2, 0, none⟩) y y))) #[true, true, false, false, true, true, false, true, true, true, true, false, false] 5 (fun (gs : Nat × Nat) W => Below D.heap.size D W ∧ Lw.RowB W gs.2 y (fun _ => 0)) ?_ (fun key010 => ?_)
          · rintro ⟨g0, g1⟩ W ⟨hb, r1⟩
            simp only [Act.put, List.setIfInBounds_toArray, List.set_cons_zero, List.set_cons_succ]
            have cv1 := hKY.out W g1 r1
            refine wpAny_ready (rs := [2, 6]) (by kernel_rfl) (by simp) ?_
            refine ready_one2 (some 92) rfl rfl rfl (.slice (some ⟨W.heap.size, 0, none⟩) x x) (W.alloc (.cells MX 5)) (by go_simp) ?_ (ready_one2 (some 96) rfl rfl rfl (.string KY) W (by go_simp) ?_ AllReady.nil)
            · simp only [Act.put, List.setIfInBounds_toArray, List.set_cons_zero, List.set_cons_succ]
              exact key11.out (W.heap.size, g1) _ (⟨hb.alloc hb.size _, Lw.rowB_new W MX x HMX.out.1 HMX.out.2, World.rowIs.alloc r1 _⟩)
            · simp only [Act.put, List.setIfInBounds_toArray, List.set_cons_zero, List.set_cons_succ]

              exact key02.out (0, g1) _ (hb)
          simp only [Act.put, List.setIfInBounds_toArray, List.set_cons_zero, List.set_cons_succ] at key010
          have key01 := Lib.hid key010
          clear key010
          refine Lw.meetA (fun (gs : Nat × Nat) a => (a.put (some 92) (.slice (some ⟨gs.1, 0, none⟩) x x))) #[true, true, true, false, true, false, false, true, true, true, true, false, false] 5 (fun (gs : Nat × Nat) W => Below D.heap.size D W ∧ Lw.RowB W gs.1 x (fun _ => 0)) ?_ (fun key100 => ?_)
          · rintro ⟨g0, g1⟩ W ⟨hb, r0⟩
            simp only [Act.put, List.setIfInBounds_toArray, List.set_cons_zero, List.set_cons_succ]
            have cv0 := hKX.out W g0 r0
            refine wpAny_ready (rs := [3, 5]) (by kernel_rfl) (by simp) ?_
            refine ready_one2 (some 93) rfl rfl rfl (.string KX) W (by go_simp) ?_ (ready_one2 (some 95) rfl rfl rfl (.slice (some ⟨W.heap.size, 0, none⟩) y y) (W.alloc (.cells MY 5)) (by go_simp) ?_ AllReady.nil)
            · simp only [Act.put, List.setIfInBounds_toArray, List.set_cons_zero, List.set_cons_succ]

              exact key20.out (g0, 0) _ (hb)
            · simp only [Act.put, List.setIfInBounds_toArray, List.set_cons_zero, List.set_cons_succ]
              exact key11.out (g0, W.heap.size) _ (⟨hb.alloc hb.size _, World.rowIs.alloc r0 _, Lw.rowB_new W MY y HMY.out.1 HMY.out.2⟩)
          simp only [Act.put, List.setIfInBounds_toArray, List.set_cons_zero, List.set_cons_succ] at key100
          have key10 := Lib.hid key100
          clear key100
          refine wpAny_ready (rs := [2, 5]) (by kernel_rfl) (by simp) ?_
          refine ready_one2 (some 92) rfl rfl rfl (.slice (some ⟨D.heap.size, 0, none⟩) x x) (D.alloc (.cells MX 5)) (by go_simp) ?_ (ready_one2 (some 95) rfl rfl rfl (.slice (some ⟨D.heap.size, 0, none⟩) y y) (D.alloc (.cells MY 5)) (by go_simp) ?_ AllReady.nil)
          · simp only [Act.put, List.setIfInBounds_toArray, List.set_cons_zero, List.set_cons_succ]
            exact key10.out (D.heap.size, 0) _ (⟨HB.out.alloc HB.out.size _, Lw.rowB_new D MX x HMX.out.1 HMX.out.2⟩)
          · simp only [Act.put, List.setIfInBounds_toArray, List.set_cons_zero, List.set_cons_succ]
            exact key01.out (0, D.heap.size) _ (⟨HB.out.alloc HB.out.size _, Lw.rowB_new D MY y HMY.out.1 HMY.out.2⟩)
        simp only [Act.put, List.setIfInBounds_toArray, List.set_cons_zero, List.set_cons_succ] at key220
        have key22 := Lib.hid key220
        clear key220
        refine Lw.meetA (fun (gs : Nat × Nat) a => ((a.put (some 82) (.slice (some ⟨gs.2, 0, none⟩) 20 20)).put (some 83) (.string Z))) #[true, false, true, true, false, false, false, false, false, false] 7 (fun (gs : Nat × Nat) W => Below D.heap.size D W) ?_ (fun key120 => ?_)
        · rintro ⟨g0, g1⟩ W hb
          simp only [Act.put, List.setIfInBounds_toArray, List.set_cons_zero, List.set_cons_succ]
          have cv0 := Ew.seg_conv HSw.out HT.out hb
          refine wpAny_ready (rs := [1]) (by kernel_rfl) (by simp) ?_
          refine ready_one2 (some 81) rfl rfl rfl (.string Z) W (by go_simp) ?_ AllReady.nil
          · simp only [Act.put, List.setIfInBounds_toArray, List.set_cons_zero, List.set_cons_succ]

            exact key22.out (0, g1) _ (hb)
        simp only [Act.put, List.setIfInBounds_toArray, List.set_cons_zero, List.set_cons_succ] at key120
        have key12 := Lib.hid key120
        clear key120
        refine Lw.meetA (fun (gs : Nat × Nat) a => ((a.put (some 81) (.string Z)).put (some 82) (.slice (some ⟨gs.2, 0, none⟩) 20 20))) #[true, true, true, false, false, false, false, false, false, false] 7 (fun (gs : Nat × Nat) W => Below D.heap.size D W ∧ Lw.RowB W gs.2 20 (fun _ => 0)) ?_ (fun key210 => ?_)
        · rintro ⟨g0, g1⟩ W ⟨hb, r1⟩
          simp only [Act.put, List.setIfInBounds_toArray, List.set_cons_zero, List.set_cons_succ]
          have cv1 := hKA.out W g1 r1
          refine wpAny_ready (rs := [3]) (by kernel_rfl) (by simp) ?_
          refine ready_one2 (some 83) rfl rfl rfl (.string Z) W (by go_simp) ?_ AllReady.nil
          · simp only [Act.put, List.setIfInBounds_toArray, List.set_cons_zero, List.set_cons_succ]

            exact key22.out (0, g1) _ (hb)
        simp only [Act.put, List.setIfInBounds_toArray, List.set_cons_zero, List.set_cons_succ] at key210
        have key21 := Lib.hid key210
        clear key210
        refine Lw.meetA (fun (gs : Nat × Nat) a => (a.put (some 82) (.slice (some ⟨gs.2, 0, none⟩) 20 20))) #[true, false, true, false, false, false, false, false, false, false] 8 (fun (gs : Nat × Nat) W => Below D.heap.size D W ∧ Lw.RowB W gs.2 20 (fun _ => 0)) ?_ (fun key110 => ?_)
        · rintro ⟨g0, g1⟩ W ⟨hb, r1⟩
          simp only [Act.put, List.setIfInBounds_toArray, List.set_cons_zero, List.set_cons_succ]
          have cv0 := Ew.seg_conv HSw.out HT.out hb
          have cv1 := hKA.out W g1 r1
          refine wpAny_ready (rs := [1, 3]) (by kernel_rfl) (by simp) ?_
          refine ready_one2 (some 81) rfl rfl rfl (.string Z) W (by go_simp) ?_ (ready_one2 (some 83) rfl rfl rfl (.string Z) W (by go_simp) ?_ AllReady.nil)
          · simp only [Act.put, List.setIfInBounds_toArray, List.set_cons_zero, List.set_cons_succ]

            exact key21.out (0, g1) _ (⟨hb, r1⟩)
          · simp only [Act.put, List.setIfInBounds_toArray, List.set_cons_zero, List.set_cons_succ]

            exact key12.out (0, g1) _ (hb)
        simp only [Act.put, List.setIfInBounds_toArray, List.set_cons_zero, List.set_cons_succ] at key110
        have key11 := Lib.hid key110
        clear key110
        refine Lw.meetA (fun (gs : Nat × Nat) a => (a.put (some 81) (.string Z))) #[true, true, false, false, false, false, false, false, false, false] 8 (fun (gs : Nat × Nat) W => Below D.heap.size D W) ?_ (fun key200 => ?_)
        · rintro ⟨g0, g1⟩ W hb
          simp only [Act.put, List.setIfInBounds_toArray, List.set_cons_zero, List.set_cons_succ]
          refine wpAny_ready (rs := [2]) (by kernel_rfl) (by simp) ?_
          refine ready_one2 (some 82) rfl rfl rfl (.slice (some ⟨W.heap.size, 0, none⟩) 20 20) (W.alloc (.cells MA 5)) (by go_simp) ?_ AllReady.nil
          · simp only [Act.put, List.setIfInBounds_toArray, List.set_cons_zero, List.set_cons_succ]
            exact key21.out (0, W.heap.size) _ (⟨hb.alloc hb.size _, Lw.rowB_new W MA 20 HMA.out.1 HMA.out.2⟩)
        simp only [Act.put, List.setIfInBounds_toArray, List.set_cons_zero, List.set_cons_succ] at key200
        have key20 := Lib.hid key200
        clear key200
        have cv0 := Ew.seg_conv HSw.out HT.out HB.out
        refine wpAny_ready (rs := [1, 2]) (by kernel_rfl) (by simp) ?_
        refine ready_one2 (some 81) rfl rfl rfl (.string Z) D (by go_simp) ?_ (ready_one2 (some 82) rfl rfl rfl (.slice (some ⟨D.heap.size, 0, none⟩) 20 20) (D.alloc (.cells MA 5)) (by go_simp) ?_ AllReady.nil)
        · simp only [Act.put, List.setIfInBounds_toArray, List.set_cons_zero, List.set_cons_succ]

          exact key20.out (0, 0) _ (HB.out)
        · simp only [Act.put, List.setIfInBounds_toArray, List.set_cons_zero, List.set_cons_succ]
          exact key11.out (0, D.heap.size) _ (⟨HB.out.alloc HB.out.size _, Lw.rowB_new D MA 20 HMA.out.1 HMA.out.2⟩)
      simp only [Act.put, List.setIfInBounds_toArray, List.set_cons_zero, List.set_cons_succ] at key220
      have key22 := Lib.hid key220
      clear key220
      refine Lw.meetA (fun (gs : Nat × Nat) a => (((a.put (some 68) (.slice (some ⟨gs.1, 0, none⟩) x x)).put (some 71) (.slice (some ⟨gs.2, 0, none⟩) y y)).put (some 72) (.string KY))) #[true, true, true, false, true, true, true, true, true, true, true, false, false, false, false, false, false] 7 (fun (gs : Nat × Nat) W => Below D.heap.size D W ∧ Lw.RowB W gs.1 x (fun _ => 0)) ?_ (fun key120 => ?_)
      · rintro ⟨g0, g1⟩ W ⟨hb, r0⟩
        simp only [Act.put, List.setIfInBounds_toArray, List.set_cons_zero, List.set_cons_succ]
        have cv0 := hKX.out W g0 r0
        refine wpAny_ready (rs := [3]) (by kernel_rfl) (by simp) ?_
        refine ready_one2 (some 69) rfl rfl rfl (.string KX) W (by go_simp) ?_ AllReady.nil
        · simp only [Act.put, List.setIfInBounds_toArray, List.set_cons_zero, List.set_cons_succ]

          exact key22.out (g0, g1) _ (hb)
      simp only [Act.put, List.setIfInBounds_toArray, List.set_cons_zero, List.set_cons_succ] at key120
      have key12 := Lib.hid key120
      clear key120
      refine Lw.meetA (fun (gs : Nat × Nat) a => (((a.put (some 68) (.slice (some ⟨gs.1, 0, none⟩) x x)).put (some 69) (.string KX)).put (some 71) (.slice (some ⟨gs.2, 0, none⟩) y y))) #[true, true, true, true, true, true, false, true, true, true, true, false, false, false, false, false, false] 7 (fun (gs : Nat × Nat) W => Below D.heap.size D W ∧ Lw.RowB W gs.2 y (fun _ => 0)) ?_ (fun key210 => ?_)
      · rintro ⟨g0, g1⟩ W ⟨hb, r1⟩
        simp only [Act.put, List.setIfInBounds_toArray, List.set_cons_zero, List.set_cons_succ]
        have cv1 := hKY.out W g1 r1
        refine wpAny_ready (rs := [6]) (by kernel_rfl) (by simp) ?_
        refine ready_one2 (some 72) rfl rfl rfl (.string KY) W (by go_simp) ?_ AllReady.nil
        · simp only [Act.put, List.setIfInBounds_toArray, List.set_cons_zero, List.set_cons_succ]

          exact key22.out (g0, g1) _ (hb)
      simp only [Act.put, List.setIfInBounds_toArray, List.set_cons_zero, List.set_cons_succ] at key210
      have key21 := Lib.hid key210
      clear key210
      refine Lw.meetA (fun (gs : Nat × Nat) a => ((a.put (some 71) (.slice (some ⟨gs.2, 0, none⟩) y y)).put (some 72) (.string KY))) #[true, true, false, false, true, true, true, true, true, true, true, false, false, false, false, false, false] 8 (fun (gs : Nat × Nat) W => Below D.heap.size D W) ?_ (fun key020 => ?_)
      · rintro ⟨g0, g1⟩ W hb
        simp only [Act.put, List.setIfInBounds_toArray, List.set_cons_zero, List.set_cons_succ]
        refine wpAny_ready (rs := [2]) (by kernel_rfl) (by simp) ?_
        refine ready_one2 (some 68) rfl rfl rfl (.slice (some ⟨W.heap.size, 0, none⟩) x x) (W.alloc (.cells MX 5)) (by go_simp) ?_ AllReady.nil
        · simp only [Act.put, List.setIfInBounds_toArray, List.set_cons_zero, List.set_cons_succ]
          exact key12.out (W.heap.size, g1) _ (⟨hb.alloc hb.size _, Lw.rowB_new W MX x HMX.out.1 HMX.out.2⟩)
      simp only [Act.put, List.setIfInBounds_toArray, List.set_cons_zero, List.set_cons_succ] at key020
      have key02 := Lib.hid key020
      clear key020
      refine Lw.meetA (fun (gs : Nat × Nat) a => ((a.put (some 68) (.slice (some ⟨gs.1, 0, none⟩) x x)).put (some 71) (.slice (some ⟨gs.2, 0, none⟩) y y))) #[true, true, true, false, true, true, false, true, true, true, true, false, false, false, false, false, false] 8 (fun (gs : Nat × Nat) W => Below D.heap.size D W ∧ Lw.RowB W gs.1 x (fun _ => 0) ∧ Lw.RowB W gs.2 y (fun _ => 0)) ?_ (fun key110 => ?_)
      · rintro ⟨g0, g1⟩ W ⟨hb, r0, r1⟩
        simp only [Act.put, List.setIfInBounds_toArray, List.set_cons_zero, List.set_cons_succ]
        have cv0 := hKX.out W g0 r0
        have cv1 := hKY.out W g1 r1
        refine wpAny_ready (rs := [3, 6]) (by kernel_rfl) (by simp) ?_
        refine ready_one2 (some 69) rfl rfl rfl (.string KX) W (by go_simp) ?_ (ready_one2 (some 72) rfl rfl rfl (.string KY) W (by go_simp) ?_ AllReady.nil)
        · simp only [Act.put, List.setIfInBounds_toArray, List.set_cons_zero, List.set_cons_succ]

          exact key21.out (g0, g1) _ (⟨hb, r1⟩)
        · simp only [Act.put, List.setIfInBounds_toArray, List.set_cons_zero, List.set_cons_succ]

          exact key12.out (g0, g1) _ (⟨hb, r0⟩)
      simp only [Act.put, List.setIfInBounds_toArray, List.set_cons_zero, List.set_cons_succ] at key110
      have key11 := Lib.hid key110
      clear key110
      refine Lw.meetA (fun (gs : Nat × Nat) a => ((a.put (some 68) (.slice (some ⟨gs.1, 0, none⟩) x x)).put (some 69) (.string KX))) #[true, true, true, true, true, false, false, true, true, true, true, false, false, false, false, false, false] 8 (fun (gs : Nat × Nat) W => Below D.heap.size D W) ?_ (fun key200 => ?_)
      · rintro ⟨g0, g1⟩ W hb
        simp only [Act.put, List.setIfInBounds_toArray, List.set_cons_zero, List.set_cons_succ]
        refine wpAny_ready (rs := [5]) (by kernel_rfl) (by simp) ?_
        refine ready_one2 (some 71) rfl rfl rfl (.slice (some ⟨W.heap.size, 0, none⟩) y y) (W.alloc (.cells MY 5)) (by go_simp) ?_ AllReady.nil
        · simp only [Act.put, List.setIfInBounds_toArray, List.set_cons_zero, List.set_cons_succ]
          exact key21.out (g0, W.heap.size) _ (⟨hb.alloc hb.size _, Lw.rowB_new W MY y HMY.out.1 HMY.out.2⟩)
      simp only [Act.put, List.setIfInBounds_toArray, List.set_cons_zero, List.set_cons_succ] at key200
      have key20 := Lib.hid key200
      clear key200
      refine Lw.meetA (fun (gs : Nat × Nat) a => (a.put (some 71) (.slice (some ⟨gs.2, 0, none⟩) y y))) #[true, true, false, false, true, true, false, true, true, true, true, false, false, false, false, false, false] 9 (fun (gs : Nat × Nat) W => Below D.heap.size D W ∧ Lw.RowB W gs.2 y (fun _ => 0)) ?_ (fun key010 => ?_)
      · rintro ⟨g0, g1⟩ W ⟨hb, r1⟩
        simp only [Act.put, List.setIfInBounds_toArray, List.set_cons_zero, List.set_cons_succ]
        have cv1 := hKY.out W g1 r1
        refine wpAny_ready (rs := [2, 6]) (by kernel_rfl) (by simp) ?_
        refine ready_one2 (some 68) rfl rfl rfl (.slice (some ⟨W.heap.size, 0, none⟩) x x) (W.alloc (.cells MX 5)) (by go_simp) ?_ (ready_one2 (some 72) rfl rfl rfl (.string KY) W (by go_simp) ?_ AllReady.nil)
        · simp only [Act.put, List.setIfInBounds_toArray, List.set_cons_zero, List.set_cons_succ]
          exact key11.out (W.heap.size, g1) _ (⟨hb.alloc hb.size _, Lw.rowB_new W MX x HMX.out.1 HMX.out.2, World.rowIs.alloc r1 _⟩)
        · simp only [Act.put, List.setIfInBounds_toArray, List.set_cons_zero, List.set_cons_succ]

          exact key02.out (0, g1) _ (hb)
      simp only [Act.put, List.setIfInBounds_toArray, List.set_cons_zero, List.set_cons_succ] at key010
      have key01 := Lib.hid key010
      clear key010
      refine Lw.meetA (fun (gs : Nat × Nat) a => (a.put (some 68) (.slice (some ⟨gs.1, 0, none⟩) x x))) #[true, true, true, false, true, false, false, true, true, true, true, false, false, false, false, false, false] 9 (fun (gs : Nat × Nat) W => Below D.heap.size D W ∧ Lw.RowB W gs.1 x (fun _ => 0)) ?_ (fun key100 => ?_)
      · rintro ⟨g0, g1⟩ W ⟨hb, r0⟩
        simp only [Act.put, List.setIfInBounds_toArray, List.set_cons_zero, List.set_cons_succ]
        have cv0 := hKX.out W g0 r0
        refine wpAny_ready (rs := [3, 5]) (by kernel_rfl) (by simp) ?_
        refine ready_one2 (some 69) rfl rfl rfl (.string KX) W (by go_simp) ?_ (ready_one2 (some 71) rfl rfl rfl (.slice (some ⟨W.heap.size, 0, none⟩) y y) (W.alloc (.cells MY 5)) (by go_simp) ?_ AllReady.nil)
        · simp only [Act.put, List.setIfInBounds_toArray, List.set_cons_zero, List.set_cons_succ]

          exact key20.out (g0, 0) _ (hb)
        · simp only [Act.put, List.setIfInBounds_toArray, List.set_cons_zero, List.set_cons_succ]
          exact key11.out (g0, W.heap.size) _ (⟨hb.alloc hb.size _, World.rowIs.alloc r0 _, Lw.rowB_new W MY y HMY.out.1 HMY.out.2⟩)
      simp only [Act.put, List.setIfInBounds_toArray, List.set_cons_zero, List.set_cons_succ] at key100
      have key10 := Lib.hid key100
      clear key100
      refine wpAny_ready (rs := [2, 5]) (by kernel_rfl) (by simp) ?_
      refine ready_one2 (some 68) rfl rfl rfl (.slice (some ⟨D.heap.size, 0, none⟩) x x) (D.alloc (.cells MX 5)) (by go_simp) ?_ (ready_one2 (some 71) rfl rfl rfl (.slice (some ⟨D.heap.size, 0, none⟩) y y) (D.alloc (.cells MY 5)) (by go_simp) ?_ AllReady.nil)
      · simp only [Act.put, List.setIfInBounds_toArray, List.set_cons_zero, List.set_cons_succ]
        exact key10.out (D.heap.size, 0) _ (⟨HB.out.alloc HB.out.size _, Lw.rowB_new D MX x HMX.out.1 HMX.out.2⟩)
      · simp only [Act.put, List.setIfInBounds_toArray, List.set_cons_zero, List.set_cons_succ]
        exact key01.out (0, D.heap.size) _ (⟨HB.out.alloc HB.out.size _, Lw.rowB_new D MY y HMY.out.1 HMY.out.2⟩)
    simp only [Act.put, List.setIfInBounds_toArray, List.set_cons_zero, List.set_cons_succ] at key220
    have key22 := Lib.hid key220
    clear key220
    refine Lw.meetA (fun (gs : Nat × Nat) a => (((a.put (some 57) (.slice (some ⟨gs.1, 0, none⟩) x x)).put (some 60) (.slice (some ⟨gs.2, 0, none⟩) y y)).put (some 61) (.string KY))) #[true, true, true, false, true, true, true, false, false, false, false, false, false] 7 (fun (gs : Nat × Nat) W => Below D.heap.size D W ∧ Lw.RowB W gs.1 x (fun _ => 0)) ?_ (fun key120 => ?_)
    · rintro ⟨g0, g1⟩ W ⟨hb, r0⟩
      simp only [Act.put, List.setIfInBounds_toArray, List.set_cons_zero, List.set_cons_succ]
      have cv0 := hKX.out W g0 r0
      refine wpAny_ready (rs := [3]) (by kernel_rfl) (by simp) ?_
      refine ready_one2 (some 58) rfl rfl rfl (.string KX) W (by go_simp) ?_ AllReady.nil
      · simp only [Act.put, List.setIfInBounds_toArray, List.set_cons_zero, List.set_cons_succ]

        exact key22.out (g0, g1) _ (hb)
    simp only [Act.put, List.setIfInBounds_toArray, List.set_cons_zero, List.set_cons_succ] at key120
    have key12 := Lib.hid key120
    clear key120
    refine Lw.meetA (fun (gs : Nat × Nat) a => (((a.put (some 57) (.slice (some ⟨gs.1, 0, none⟩) x x)).put (some 58) (.string KX)).put (some 60) (.slice (some ⟨gs.2, 0, none⟩) y y))) #[true, true, true, true, true, true, false, false, false, false, false, false, false] 7 (fun (gs : Nat × Nat) W => Below D.heap.size D W ∧ Lw.RowB W gs.2 y (fun _ => 0)) ?_ (fun key210 => ?_)
    · rintro ⟨g0, g1⟩ W ⟨hb, r1⟩
      simp only [Act.put, List.setIfInBounds_toArray, List.set_cons_zero, List.set_cons_succ]
      have cv1 := hKY.out W g1 r1
      refine wpAny_ready (rs := [6]) (by kernel_rfl) (by simp) ?_
      refine ready_one2 (some 61) rfl rfl rfl (.string KY) W (by go_simp) ?_ AllReady.nil
      · simp only [Act.put, List.setIfInBounds_toArray, List.set_cons_zero, List.set_cons_succ]

        exact key22.out (g0, g1) _ (hb)
    simp only [Act.put, List.setIfInBounds_toArray, List.set_cons_zero, List.set_cons_succ] at key210
    have key21 := Lib.hid key210
    clear key210
    refine Lw.meetA (fun (gs : Nat × Nat) a => ((a.put (some 60) (.slice (some ⟨gs.2, 0, none⟩) y y)).put (some 61) (.string KY))) #[true, true, false, false, true, true, true, false, false, false, false, false, false] 8 (fun (gs : Nat × Nat) W => Below D.heap.size D W) ?_ (fun key020 => ?_)
    · rintro ⟨g0, g1⟩ W hb
      simp only [Act.put, List.setIfInBounds_toArray, List.set_cons_zero, List.set_cons_succ]
      refine wpAny_ready (rs := [2]) (by kernel_rfl) (by simp) ?_
      refine ready_one2 (some 57) rfl rfl rfl (.slice (some ⟨W.heap.size, 0, none⟩) x x) (W.alloc (.cells MX 5)) (by go_simp) ?_ AllReady.nil
      · simp only [Act.put, List.setIfInBounds_toArray, List.set_cons_zero, List.set_cons_succ]
        exact key12.out (W.heap.size, g1) _ (⟨hb.alloc hb.size _, Lw.rowB_new W MX x HMX.out.1 HMX.out.2⟩)
    simp only [Act.put, List.setIfInBounds_toArray, List.set_cons_zero, List.set_cons_succ] at key020
    have key02 := Lib.hid key020
    clear key020
    refine Lw.meetA (fun (gs : Nat × Nat) a => ((a.put (some 57) (.slice (some ⟨gs.1, 0, none⟩) x x)).put (some 60) (.slice (some ⟨gs.2, 0, none⟩) y y))) #[true, true, true, false, true, true, false, false, false, false, false, false, false] 8 (fun (gs : Nat × Nat) W => Below D.heap.size D W ∧ Lw.RowB W gs.1 x (fun _ => 0) ∧ Lw.RowB W gs.2 y (fun _ => 0)) ?_ (fun key110 => ?_)
    · rintro ⟨g0, g1⟩ W ⟨hb, r0, r1⟩
      simp only [Act.put, List.setIfInBounds_toArray, List.set_cons_zero, List.set_cons_succ]
      have cv0 := hKX.out W g0 r0
      have cv1 := hKY.out W g1 r1
      refine wpAny_ready (rs := [3, 6]) (by kernel_rfl) (by simp) ?_
      refine ready_one2 (some 58) rfl rfl rfl (.string KX) W (by go_simp) ?_ (ready_one2 (some 61) rfl rfl rfl (.string KY) W (by go_simp) ?_ AllReady.nil)
      · simp only [Act.put, List.setIfInBounds_toArray, List.set_cons_zero, List.set_cons_succ]

        exact key21.out (g0, g1) _ (⟨hb, r1⟩)
      · simp only [Act.put, List.setIfInBounds_toArray, List.set_cons_zero, List.set_cons_succ]

        exact key12.out (g0, g1) _ (⟨hb, r0⟩)
    simp only [Act.put, List.setIfInBounds_toArray, List.set_cons_zero, List.set_cons_succ] at key110
    have key11 := Lib.hid key110
    clear key110
    refine Lw.meetA (fun (gs : Nat × Nat) a => ((a.put (some 57) (.slice (some ⟨gs.1, 0, none⟩) x x)).put (some 58) (.string KX))) #[true, true, true, true, true, false, false, false, false, false, false, false, false] 8 (fun (gs : Nat × Nat) W => Below D.heap.size D W) ?_ (fun key200 => ?_)
    · rintro ⟨g0, g1⟩ W hb
      simp only [Act.put, List.setIfInBounds_toArray, List.set_cons_zero, List.set_cons_succ]
      refine wpAny_ready (rs := [5]) (by kernel_rfl) (by simp) ?_
      refine ready_one2 (some 60) rfl rfl rfl (.slice (some ⟨W.heap.size, 0, none⟩) y y) (W.alloc (.cells MY 5)) (by go_simp) ?_ AllReady.nil
      · simp only [Act.put, List.setIfInBounds_toArray, List.set_cons_zero, List.set_cons_succ]
        exact key21.out (g0, W.heap.size) _ (⟨hb.alloc hb.size _, Lw.rowB_new W MY y HMY.out.1 HMY.out.2⟩)
    simp only [Act.put, List.setIfInBounds_toArray, List.set_cons_zero, List.set_cons_succ] at key200
    have key20 := Lib.hid key200
    clear key200
    refine Lw.meetA (fun (gs : Nat × Nat) a => (a.put (some 60) (.slice (some ⟨gs.2, 0, none⟩) y y))) #[true, true, false, false, true, true, false, false, false, false, false, false, false] 9 (fun (gs : Nat × Nat) W => Below D.heap.size D W ∧ Lw.RowB W gs.2 y (fun _ => 0)) ?_ (fun key010 => ?_)
    · rintro ⟨g0, g1⟩ W ⟨hb, r1⟩
      simp only [Act.put, List.setIfInBounds_toArray, List.set_cons_zero, List.set_cons_succ]
      have cv1 := hKY.out W g1 r1
      refine wpAny_ready (rs := [2, 6]) (by kernel_rfl) (by simp) ?_
      refine ready_one2 (some 57) rfl rfl rfl (.slice (some ⟨W.heap.size, 0, none⟩) x x) (W.alloc (.cells MX 5)) (by go_simp) ?_ (ready_one2 (some 61) rfl rfl rfl (.string KY) W (by go_simp) ?_ AllReady.nil)
      · simp only [Act.put, List.setIfInBounds_toArray, List.set_cons_zero, List.set_cons_succ]
        exact key11.out (W.heap.size, g1) _ (⟨hb.alloc hb.size _, Lw.rowB_new W MX x HMX.out.1 HMX.out.2, World.rowIs.alloc r1 _⟩)
      · simp only [Act.put, List.setIfInBounds_toArray, List.set_cons_zero, List.set_cons_succ]

        exact key02.out (0, g1) _ (hb)
    simp only [Act.put, List.setIfInBounds_toArray, List.set_cons_zero, List.set_cons_succ] at key010
    have key01 := Lib.hid key010
    clear key010
    refine Lw.meetA (fun (gs : Nat × Nat) a => (a.put (some 57) (.slice (some ⟨gs.1, 0, none⟩) x x))) #[true, true, true, false, true, false, false, false, false, false, false, false, false] 9 (fun (gs : Nat × Nat) W => Below D.heap.size D W ∧ Lw.RowB W gs.1 x (fun _ => 0)) ?_ (fun key100 => ?_)
    · rintro ⟨g0, g1⟩ W ⟨hb, r0⟩
      simp only [Act.put, List.setIfInBounds_toArray, List.set_cons_zero, List.set_cons_succ]
      have cv0 := hKX.out W g0 r0
      refine wpAny_ready (rs := [3, 5]) (by kernel_rfl) (by simp) ?_
      refine ready_one2 (some 58) rfl rfl rfl (.string KX) W (by go_simp) ?_ (ready_one2 (some 60) rfl rfl rfl (.slice (some ⟨W.heap.size, 0, none⟩) y y) (W.alloc (.cells MY 5)) (by go_simp) ?_ AllReady.nil)
      · simp only [Act.put, List.setIfInBounds_toArray, List.set_cons_zero, List.set_cons_succ]

        exact key20.out (g0, 0) _ (hb)
      · simp only [Act.put, List.setIfInBounds_toArray, List.set_cons_zero, List.set_cons_succ]
        exact key11.out (g0, W.heap.size) _ (⟨hb.alloc hb.size _, World.rowIs.alloc r0 _, Lw.rowB_new W MY y HMY.out.1 HMY.out.2⟩)
    simp only [Act.put, List.setIfInBounds_toArray, List.set_cons_zero, List.set_cons_succ] at key100
    have key10 := Lib.hid key100
    clear key100
    refine wpAny_ready (rs := [2, 5]) (by kernel_rfl) (by simp) ?_
    refine ready_one2 (some 57) rfl rfl rfl (.slice (some ⟨D.heap.size, 0, none⟩) x x) (D.alloc (.cells MX 5)) (by go_simp) ?_ (ready_one2 (some 60) rfl rfl rfl (.slice (some ⟨D.heap.size, 0, none⟩) y y) (D.alloc (.cells MY 5)) (by go_simp) ?_ AllReady.nil)
    · simp only [Act.put, List.setIfInBounds_toArray, List.set_cons_zero, List.set_cons_succ]
      exact key10.out (D.heap.size, 0) _ (⟨HB.out.alloc HB.out.size _, Lw.rowB_new D MX x HMX.out.1 HMX.out.2⟩)
    · simp only [Act.put, List.setIfInBounds_toArray, List.set_cons_zero, List.set_cons_succ]
      exact key01.out (0, D.heap.size) _ (⟨HB.out.alloc HB.out.size _, Lw.rowB_new D MY y HMY.out.1 HMY.out.2⟩)

set_option maxRecDepth 100000 in
theorem lifted (os : Os) (started : os.Started) (H : Type) (enc : TypeId × Value → H) :
    ReturnsInHanded {} Try.checked os 5 .any (Rows.aeadFormsSpec.pre6 enc Try.prog Try.f5 Rows.aeadFormsRow.domain false) (Rows.aeadFormsSpec.post enc Try.prog Try.f5 false true false false) := by
  refine returnsInHanded_of_change (C := Try.checked) own started (by kernel_rfl) Try.func5
    (ChangeSpec.witness6 (enc := enc) (C := Try.checked) false ⟨#[], #[.int .i64 0, .int .i64 0, .int .i64 0], []⟩ 8 (by kernel_rfl) (by kernel_rfl) (by kernel_rfl) (by kernel_rfl)) ?_
  intro W base args ds gs before hval0 hW hcnd _
  have hval : ∀ (j : Nat) t v, Try.f5.params[j]? = some t → args[j]? = some v → Value.okWide Try.prog W .any base t v := hval0
  have hW' := hW
  obtain ⟨p, q, hA0, hV, rfl, hfz, hnd⟩ := hW
  have hA : DataW.TrodAll enc Try.prog W 0 (fun _ => true) true Try.f5.params.toList args.toList ds p := hA0
  rw [Try.params5] at hA hval
  obtain ⟨v0, vs0, d0, ds0, p0, q0, hargs, rfl, rfl, h0, r0⟩ := trodAll_cons hA
  obtain ⟨v1, vs1, d1, ds1, p1, q1, rfl, rfl, rfl, h1, r1⟩ := trodAll_cons r0
  obtain ⟨v2, vs2, d2, ds2, p2, q2, rfl, rfl, rfl, h2, r2⟩ := trodAll_cons r1
  obtain ⟨rfl, rfl, rfl⟩ := trodAll_nil r2
  obtain rfl : args = #[v0, v1, v2] := by cases args; simp_all
  obtain ⟨rfl, rfl⟩ := trodVars_none hV
  obtain ⟨a0, rfl, rfl, rfl, w0⟩ := open_int Try.underlying3 (hval 0 3 v0 rfl rfl) h0
  obtain ⟨a1, rfl, rfl, rfl, w1⟩ := open_int Try.underlying3 (hval 1 3 v1 rfl rfl) h1
  obtain ⟨a2, rfl, rfl, rfl, w2⟩ := open_int Try.underlying3 (hval 2 3 v2 rfl rfl) h2
  clear hA0 hval0
  simp only [List.append_nil] at hW'
  refine (walk a0 a1 a2 w0 w1 w2 W).mono fun e W' ⟨he, bel⟩ => ?_
  subst he
  exact ⟨_, rfl, _, _, _, [], [], [], hW', trodAll_mk1 (shut_bool Try.underlying4 _), (trodAll_cons_mk (shut_int Try.underlying3 w0) (trodAll_cons_mk (shut_int Try.underlying3 w1) (trodAll_cons_mk (shut_int Try.underlying3 w2) trodAll_mk0))), rfl, bel.frame _, fun h => by cases h⟩

theorem over : Rows.aeadFormsRow.holds Try.pinned (OpenSpec.ofChange Rows.aeadFormsSpec) :=
  OpenClaim.holds_of_wide 5 Try.f5 rfl rfl rfl rfl rfl rfl rfl ⟨rfl, rfl, rfl, rfl, rfl⟩ rfl rfl rfl rfl rfl (by kernel_rfl) Try.func5 (by kernel_rfl)
    (of_decide_eq_true (by kernel_rfl)) (by unfold Func.isWrapper; first | (rw [if_pos (by decide +kernel)]; kernel_rfl) | (rw [if_neg (by decide +kernel)]; exact ⟨rfl, rfl⟩))
    (fun os started H enc _ => lifted os started H enc)

theorem proved : Rows.AeadFormsSaid :=
  over
#print axioms proved
end Go.Proofs.Ytljhenjbjondkaa.aeadForms
