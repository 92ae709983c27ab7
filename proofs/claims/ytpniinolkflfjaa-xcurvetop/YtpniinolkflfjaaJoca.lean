/-
  For layer 10's laws: the base's text, and what halberdlaw10's awake answers.
-/
import Derived.Test.YtpniinolkflfjaaJobz
namespace Go.Proofs.Xw
open Go.RowKit
open Go.Proofs.Nt
open Go.Proofs.Nu
open Go.Proofs.Xu
open Go.Proofs.Xv
open Go.Proofs.Aes (byt byt_lt get_byt)
theorem zero_tx : Lw.pieceS (fun _ => 0) 0 32 = tx (sA 0) := by
  unfold tx
  congr 1
  funext t
  unfold sA
  split <;> rfl
theorem nine_tx : (⟨#[9]⟩ : ByteArray) ++ Lw.pieceS (fun _ => 0) 0 31 = nineS := by
  decide +kernel
set_option maxHeartbeats 1000000 in
theorem nine_any (w : World) : Calls Try.prog 10 #[] w fun e w' => e = .returned (.string nineS) ∧ Below w.heap.size w w' := by
  obtain ⟨M, hM, hMc, hmk0⟩ := Lw.zeros 31 (by decide)
  have hmk : (Instr.makeSlice 32 (.int .i64 31) (.int .i64 31)).run Try.prog w = .ok (.slice (some ⟨w.heap.size, 0, none⟩) 31 31) (w.alloc (.cells M 5)) := hmk0 w
  have hct := (Lw.rowB_new w M 31 hM hMc).text 0 31 31 (by decide)
  have HB : Hid (Below w.heap.size w (w.alloc (.cells M 5))) := (Below.refl _ _).alloc (Nat.le_refl _) _
  have HN := Lib.hid nine_tx
  have ks := Lw.pieceS_size (fun _ => 0) 0 31
  clear hmk0 hM hMc
  generalize Lw.pieceS (fun _ => 0) 0 31 = K at hct HN ks
  have k0 : ¬ 9223372036854775807 < 1 + K.size := by omega
  have k1 : (9223372036854775807 < 1 + K.size) = False := eq_false k0
  clear ks
  go_enter Try.func10, Try.ntmps10
  go_wp2_with (fail)
  go_ret
  rw [HN.out]
  exact ⟨rfl, HB.out⟩
/-- 32 noughts as a text. -/
theorem noughts : ∃ M : Array Value, (M.size = 32 ∧ ∀ i, i < 32 → M[i]? = some (.int .u8 0)) ∧ (∀ W : World, (Instr.makeSlice 32 (.int .i64 32) (.int .i64 32)).run Try.prog W = .ok (.slice (some ⟨W.heap.size, 0, none⟩) 32 32) (W.alloc (.cells M 5))) ∧
    (∀ (W : World) (g : Nat), Lw.RowB W g 32 (fun _ => 0) → (Go.convert 32 9 (.slice (some ⟨g, 0, none⟩) 32 32)).run Try.prog W = .ok (.string (tx (sA 0))) W) := by
  obtain ⟨M, hM, hMc, hmk0⟩ := Lw.zeros 32 (by decide)
  refine ⟨M, ⟨hM, hMc⟩, hmk0, fun W g r => ?_⟩
  have h := r.text 0 32 32 (by decide)
  rw [zero_tx] at h
  exact h
open Go.Proofs.Im (ready_one2 ready_call2)
set_option maxHeartbeats 4000000 in
set_option maxRecDepth 20000 in
theorem awake10_any (w : World) : Calls Try.prog 12 #[] w fun e w' => e = .returned (.bool true) ∧ Below w.heap.size w w' := by
  obtain ⟨M, hM0, hmk, hK0⟩ := noughts
  have HM := Lib.hid hM0
  have hK := Lib.hid hK0
  have hct := fun W : World => hK0 _ _ (Lw.rowB_new W M 32 hM0.1 hM0.2)
  clear hM0 hK0
  have HP := Lib.hid (fun v : World => Xd.public_any (tx (sA 0)) v)
  have HP2 := Lib.hid (fun v : World => Xd.public_any ⟨#[107]⟩ v)
  have HS := Lib.hid (fun v : World => Xd.shared_any (tx (sA 0)) nineS v)
  have HS2 := Lib.hid (fun v : World => Xd.shared_any (tx (sA 0)) (tx (sA 0)) v)
  have HN := Lib.hid (fun v : World => nine_any v)
  have HE0 := Lib.hid (pub_some (tx_size (sA 0))).2
  have HE1 := Lib.hid (small_0 (tx_size (sA 0))).2
  have HE2 : Hid (shE ⟨#[107]⟩ nineS = 1000) := (sh_form1 (by decide)).2
  have b0 := pub0_0
  have b1 := pub0_1
  have sz := pub_size (tx_size (sA 0))
  rw [HE0.out] at HP HS
  rw [HE1.out] at HS2
  rw [HE2.out] at HP2
  clear HE0 HE1 HE2
  generalize shS (tx (sA 0)) nineS = P at *
  generalize shS (tx (sA 0)) (tx (sA 0)) = P2 at *
  generalize shS ⟨#[107]⟩ nineS = P3 at *
  generalize tx (sA 0) = Z at *
  generalize nineS = N9 at *
  have p0 : ∀ h : 0 < P.size, (P[0]'h).toNat = 47 := fun h => (get_byt P 0 h).trans b0
  have p1 : ∀ h : 1 < P.size, (P[1]'h).toNat = 229 := fun h => (get_byt P 1 h).trans b1
  clear b0 b1
  have HB : Hid (Below w.heap.size w w) := Below.refl _ _
  go_enter Try.func12, Try.ntmps12
  go_upto_region 2 with (first | (go_at_call 9; refine (HP.out _).mono ?_; rintro e u1 ⟨rfl, hb⟩; have HB := Lib.hid (Lw.go_on (HB.out.alloc (Nat.le_refl _) (.cells M 5)) hb); clear hb))
  go_upto_region 2 with (fail)
  refine wp_region_any (by kernel_rfl) ?_
  change wpAny _ _ _ _ _ _ _ u1.drew
  have HB : Hid (Below w.heap.size w u1.drew) := HB.out.drew
  generalize u1.drew = D at HB ⊢
  refine Lw.meetA (fun (gs : Nat × Nat) a => (((a.put (some 16) (.slice (some ⟨gs.1, 0, none⟩) 32 32)).put (some 17) (.string Z)).put (some 18) (.string N9))) #[true, true, true, false, false, false, false, false, false] 6 (fun (gs : Nat × Nat) W => Below w.heap.size w W) ?_ (fun key220 => ?_)
  · rintro ⟨g0, g1⟩ W hb
    simp only [Act.put, List.setIfInBounds_toArray, List.set_cons_zero, List.set_cons_succ]
    have HB := Lib.hid hb
    clear hb
    refine wpAny_ready (rs := [3]) (by kernel_rfl) (by simp) ?_
    refine ready_call2 (some 19) rfl rfl rfl 7 _ _ rfl (fun _ _ => by go_simp) #[.string Z, .string N9] (by kernel_rfl) ?_ AllReady.nil
    refine (HS.out _).mono ?_
    rintro e v ⟨rfl, hb⟩
    refine ⟨_, rfl, ?_⟩
    have HB := Lib.hid (Lw.go_on HB.out hb)
    clear hb
    simp only [Act.put, List.setIfInBounds_toArray, List.set_cons_zero, List.set_cons_succ]
    refine Lw.take_to (i := 4) (some 15) (.tuple #[.string P, .int .i64 0]) rfl rfl (by kernel_rfl) (by kernel_rfl) (by kernel_rfl) (fun _ _ _ h => h) (Or.inl ⟨by rfl, fun w => by go_simp⟩) ?_
    simp only [Act.put, List.setIfInBounds_toArray, List.set_cons_zero, List.set_cons_succ]
    refine Lw.take_to (i := 5) (some 20) (.string P) rfl rfl (by kernel_rfl) (by kernel_rfl) (by kernel_rfl) (fun _ _ _ h => h) (Or.inl ⟨by rfl, fun w => by go_simp⟩) ?_
    simp only [Act.put, List.setIfInBounds_toArray, List.set_cons_zero, List.set_cons_succ]
    refine Lw.take_to (i := 6) (some 21) (.int .i64 0) rfl rfl (by kernel_rfl) (by kernel_rfl) (by kernel_rfl) (fun _ _ _ h => h) (Or.inl ⟨by rfl, fun w => by go_simp⟩) ?_
    simp only [Act.put, List.setIfInBounds_toArray, List.set_cons_zero, List.set_cons_succ]
    refine Lw.take_to (i := 7) (some 3) (.string P) rfl rfl (by kernel_rfl) (by kernel_rfl) (by kernel_rfl) (fun _ _ _ h => h) (Or.inl ⟨by rfl, fun w => by go_simp⟩) ?_
    simp only [Act.put, List.setIfInBounds_toArray, List.set_cons_zero, List.set_cons_succ]
    refine Lw.take_to (i := 8) (some 4) (.int .i64 0) rfl rfl (by kernel_rfl) (by kernel_rfl) (by kernel_rfl) (fun _ _ _ h => h) (Or.inl ⟨by rfl, fun w => by go_simp⟩) ?_
    simp only [Act.put, List.setIfInBounds_toArray, List.set_cons_zero, List.set_cons_succ]
    refine wpAny_done (by kernel_rfl) ?_ _
    go_upto_region 3 with (fail)
    refine wp_region_any (by kernel_rfl) ?_
    change wpAny _ _ _ _ _ _ _ v.drew
    have HB : Hid (Below w.heap.size w v.drew) := HB.out.drew
    generalize v.drew = D at HB ⊢
    refine Lw.meetA (fun (gs : Nat × Nat) a => ((((a.put (some 23) (.slice (some ⟨gs.1, 0, none⟩) 32 32)).put (some 24) (.string Z)).put (some 25) (.slice (some ⟨gs.2, 0, none⟩) 32 32)).put (some 26) (.string Z))) #[true, true, true, true, false, false, false, false, false, false] 6 (fun (gs : Nat × Nat) W => Below w.heap.size w W) ?_ (fun key220 => ?_)
    · rintro ⟨g0, g1⟩ W hb
      simp only [Act.put, List.setIfInBounds_toArray, List.set_cons_zero, List.set_cons_succ]
      have HB := Lib.hid hb
      clear hb
      refine wpAny_ready (rs := [4]) (by kernel_rfl) (by simp) ?_
      refine ready_call2 (some 27) rfl rfl rfl 7 _ _ rfl (fun _ _ => by go_simp) #[.string Z, .string Z] (by kernel_rfl) ?_ AllReady.nil
      refine (HS2.out _).mono ?_
      rintro e v3 ⟨rfl, hb⟩
      refine ⟨_, rfl, ?_⟩
      have HB := Lib.hid (Lw.go_on HB.out hb)
      clear hb
      simp only [Act.put, List.setIfInBounds_toArray, List.set_cons_zero, List.set_cons_succ]
      refine Lw.take_to (i := 5) (some 22) (.tuple #[.string P2, .int .i64 1001]) rfl rfl (by kernel_rfl) (by kernel_rfl) (by kernel_rfl) (fun _ _ _ h => h) (Or.inl ⟨by rfl, fun w => by go_simp⟩) ?_
      simp only [Act.put, List.setIfInBounds_toArray, List.set_cons_zero, List.set_cons_succ]
      refine Lw.take_to (i := 6) (some 28) (.string P2) rfl rfl (by kernel_rfl) (by kernel_rfl) (by kernel_rfl) (fun _ _ _ h => h) (Or.inl ⟨by rfl, fun w => by go_simp⟩) ?_
      simp only [Act.put, List.setIfInBounds_toArray, List.set_cons_zero, List.set_cons_succ]
      refine Lw.take_to (i := 7) (some 29) (.int .i64 1001) rfl rfl (by kernel_rfl) (by kernel_rfl) (by kernel_rfl) (fun _ _ _ h => h) (Or.inl ⟨by rfl, fun w => by go_simp⟩) ?_
      simp only [Act.put, List.setIfInBounds_toArray, List.set_cons_zero, List.set_cons_succ]
      refine Lw.take_to (i := 8) (some 5) (.string P2) rfl rfl (by kernel_rfl) (by kernel_rfl) (by kernel_rfl) (fun _ _ _ h => h) (Or.inl ⟨by rfl, fun w => by go_simp⟩) ?_
      simp only [Act.put, List.setIfInBounds_toArray, List.set_cons_zero, List.set_cons_succ]
      refine Lw.take_to (i := 9) (some 6) (.int .i64 1001) rfl rfl (by kernel_rfl) (by kernel_rfl) (by kernel_rfl) (fun _ _ _ h => h) (Or.inl ⟨by rfl, fun w => by go_simp⟩) ?_
      simp only [Act.put, List.setIfInBounds_toArray, List.set_cons_zero, List.set_cons_succ]
      refine wpAny_done (by kernel_rfl) ?_ _
      go_upto_region 5 with (first | (go_at_call 9; refine (HP2.out _).mono ?_; rintro e u9 ⟨rfl, hb⟩; have HB := Lib.hid (Lw.go_on HB.out hb); clear hb))
      go_wp2_with (go_at_call 11; refine (Lw.num_same _ _).mono ?_; rintro e u ⟨rfl, rfl⟩)
      go_ret
      exact ⟨rfl, HB.out⟩
    simp only [Act.put, List.setIfInBounds_toArray, List.set_cons_zero, List.set_cons_succ] at key220
    have key22 := Lib.hid key220
    clear key220
    refine Lw.meetA (fun (gs : Nat × Nat) a => (((a.put (some 23) (.slice (some ⟨gs.1, 0, none⟩) 32 32)).put (some 25) (.slice (some ⟨gs.2, 0, none⟩) 32 32)).put (some 26) (.string Z))) #[true, false, true, true, false, false, false, false, false, false] 7 (fun (gs : Nat × Nat) W => Below w.heap.size w W ∧ Lw.RowB W gs.1 32 (fun _ => 0)) ?_ (fun key120 => ?_)
    · rintro ⟨g0, g1⟩ W ⟨hb, r0⟩
      simp only [Act.put, List.setIfInBounds_toArray, List.set_cons_zero, List.set_cons_succ]
      have cv0 := hK.out W g0 r0
      refine wpAny_ready (rs := [1]) (by kernel_rfl) (by simp) ?_
      refine ready_one2 (some 24) rfl rfl rfl (.string Z) W (by go_simp) ?_ AllReady.nil
      · simp only [Act.put, List.setIfInBounds_toArray, List.set_cons_zero, List.set_cons_succ]

        exact key22.out (g0, g1) _ (hb)
    simp only [Act.put, List.setIfInBounds_toArray, List.set_cons_zero, List.set_cons_succ] at key120
    have key12 := Lib.hid key120
    clear key120
    refine Lw.meetA (fun (gs : Nat × Nat) a => (((a.put (some 23) (.slice (some ⟨gs.1, 0, none⟩) 32 32)).put (some 24) (.string Z)).put (some 25) (.slice (some ⟨gs.2, 0, none⟩) 32 32))) #[true, true, true, false, false, false, false, false, false, false] 7 (fun (gs : Nat × Nat) W => Below w.heap.size w W ∧ Lw.RowB W gs.2 32 (fun _ => 0)) ?_ (fun key210 => ?_)
    · rintro ⟨g0, g1⟩ W ⟨hb, r1⟩
      simp only [Act.put, List.setIfInBounds_toArray, List.set_cons_zero, List.set_cons_succ]
      have cv1 := hK.out W g1 r1
      refine wpAny_ready (rs := [3]) (by kernel_rfl) (by simp) ?_
      refine ready_one2 (some 26) rfl rfl rfl (.string Z) W (by go_simp) ?_ AllReady.nil
      · simp only [Act.put, List.setIfInBounds_toArray, List.set_cons_zero, List.set_cons_succ]

        exact key22.out (g0, g1) _ (hb)
    simp only [Act.put, List.setIfInBounds_toArray, List.set_cons_zero, List.set_cons_succ] at key210
    have key21 := Lib.hid key210
    clear key210
    refine Lw.meetA (fun (gs : Nat × Nat) a => ((a.put (some 25) (.slice (some ⟨gs.2, 0, none⟩) 32 32)).put (some 26) (.string Z))) #[false, false, true, true, false, false, false, false, false, false] 8 (fun (gs : Nat × Nat) W => Below w.heap.size w W) ?_ (fun key020 => ?_)
    · rintro ⟨g0, g1⟩ W hb
      simp only [Act.put, List.setIfInBounds_toArray, List.set_cons_zero, List.set_cons_succ]
      refine wpAny_ready (rs := [0]) (by kernel_rfl) (by simp) ?_
      refine ready_one2 (some 23) rfl rfl rfl (.slice (some ⟨W.heap.size, 0, none⟩) 32 32) (W.alloc (.cells M 5)) (by go_simp) ?_ AllReady.nil
      · simp only [Act.put, List.setIfInBounds_toArray, List.set_cons_zero, List.set_cons_succ]
        exact key12.out (W.heap.size, g1) _ (⟨hb.alloc hb.size _, Lw.rowB_new W M 32 HM.out.1 HM.out.2⟩)
    simp only [Act.put, List.setIfInBounds_toArray, List.set_cons_zero, List.set_cons_succ] at key020
    have key02 := Lib.hid key020
    clear key020
    refine Lw.meetA (fun (gs : Nat × Nat) a => ((a.put (some 23) (.slice (some ⟨gs.1, 0, none⟩) 32 32)).put (some 25) (.slice (some ⟨gs.2, 0, none⟩) 32 32))) #[true, false, true, false, false, false, false, false, false, false] 8 (fun (gs : Nat × Nat) W => Below w.heap.size w W ∧ Lw.RowB W gs.1 32 (fun _ => 0) ∧ Lw.RowB W gs.2 32 (fun _ => 0)) ?_ (fun key110 => ?_)
    · rintro ⟨g0, g1⟩ W ⟨hb, r0, r1⟩
      simp only [Act.put, List.setIfInBounds_toArray, List.set_cons_zero, List.set_cons_succ]
      have cv0 := hK.out W g0 r0
      have cv1 := hK.out W g1 r1
      refine wpAny_ready (rs := [1, 3]) (by kernel_rfl) (by simp) ?_
      refine ready_one2 (some 24) rfl rfl rfl (.string Z) W (by go_simp) ?_ (ready_one2 (some 26) rfl rfl rfl (.string Z) W (by go_simp) ?_ AllReady.nil)
      · simp only [Act.put, List.setIfInBounds_toArray, List.set_cons_zero, List.set_cons_succ]

        exact key21.out (g0, g1) _ (⟨hb, r1⟩)
      · simp only [Act.put, List.setIfInBounds_toArray, List.set_cons_zero, List.set_cons_succ]

        exact key12.out (g0, g1) _ (⟨hb, r0⟩)
    simp only [Act.put, List.setIfInBounds_toArray, List.set_cons_zero, List.set_cons_succ] at key110
    have key11 := Lib.hid key110
    clear key110
    refine Lw.meetA (fun (gs : Nat × Nat) a => ((a.put (some 23) (.slice (some ⟨gs.1, 0, none⟩) 32 32)).put (some 24) (.string Z))) #[true, true, false, false, false, false, false, false, false, false] 8 (fun (gs : Nat × Nat) W => Below w.heap.size w W) ?_ (fun key200 => ?_)
    · rintro ⟨g0, g1⟩ W hb
      simp only [Act.put, List.setIfInBounds_toArray, List.set_cons_zero, List.set_cons_succ]
      refine wpAny_ready (rs := [2]) (by kernel_rfl) (by simp) ?_
      refine ready_one2 (some 25) rfl rfl rfl (.slice (some ⟨W.heap.size, 0, none⟩) 32 32) (W.alloc (.cells M 5)) (by go_simp) ?_ AllReady.nil
      · simp only [Act.put, List.setIfInBounds_toArray, List.set_cons_zero, List.set_cons_succ]
        exact key21.out (g0, W.heap.size) _ (⟨hb.alloc hb.size _, Lw.rowB_new W M 32 HM.out.1 HM.out.2⟩)
    simp only [Act.put, List.setIfInBounds_toArray, List.set_cons_zero, List.set_cons_succ] at key200
    have key20 := Lib.hid key200
    clear key200
    refine Lw.meetA (fun (gs : Nat × Nat) a => (a.put (some 25) (.slice (some ⟨gs.2, 0, none⟩) 32 32))) #[false, false, true, false, false, false, false, false, false, false] 9 (fun (gs : Nat × Nat) W => Below w.heap.size w W ∧ Lw.RowB W gs.2 32 (fun _ => 0)) ?_ (fun key010 => ?_)
    · rintro ⟨g0, g1⟩ W ⟨hb, r1⟩
      simp only [Act.put, List.setIfInBounds_toArray, List.set_cons_zero, List.set_cons_succ]
      have cv1 := hK.out W g1 r1
      refine wpAny_ready (rs := [0, 3]) (by kernel_rfl) (by simp) ?_
      refine ready_one2 (some 23) rfl rfl rfl (.slice (some ⟨W.heap.size, 0, none⟩) 32 32) (W.alloc (.cells M 5)) (by go_simp) ?_ (ready_one2 (some 26) rfl rfl rfl (.string Z) W (by go_simp) ?_ AllReady.nil)
      · simp only [Act.put, List.setIfInBounds_toArray, List.set_cons_zero, List.set_cons_succ]
        exact key11.out (W.heap.size, g1) _ (⟨hb.alloc hb.size _, Lw.rowB_new W M 32 HM.out.1 HM.out.2, World.rowIs.alloc r1 _⟩)
      · simp only [Act.put, List.setIfInBounds_toArray, List.set_cons_zero, List.set_cons_succ]

        exact key02.out (0, g1) _ (hb)
    simp only [Act.put, List.setIfInBounds_toArray, List.set_cons_zero, List.set_cons_succ] at key010
    have key01 := Lib.hid key010
    clear key010
    refine Lw.meetA (fun (gs : Nat × Nat) a => (a.put (some 23) (.slice (some ⟨gs.1, 0, none⟩) 32 32))) #[true, false, false, false, false, false, false, false, false, false] 9 (fun (gs : Nat × Nat) W => Below w.heap.size w W ∧ Lw.RowB W gs.1 32 (fun _ => 0)) ?_ (fun key100 => ?_)
    · rintro ⟨g0, g1⟩ W ⟨hb, r0⟩
      simp only [Act.put, List.setIfInBounds_toArray, List.set_cons_zero, List.set_cons_succ]
      have cv0 := hK.out W g0 r0
      refine wpAny_ready (rs := [1, 2]) (by kernel_rfl) (by simp) ?_
      refine ready_one2 (some 24) rfl rfl rfl (.string Z) W (by go_simp) ?_ (ready_one2 (some 25) rfl rfl rfl (.slice (some ⟨W.heap.size, 0, none⟩) 32 32) (W.alloc (.cells M 5)) (by go_simp) ?_ AllReady.nil)
      · simp only [Act.put, List.setIfInBounds_toArray, List.set_cons_zero, List.set_cons_succ]

        exact key20.out (g0, 0) _ (hb)
      · simp only [Act.put, List.setIfInBounds_toArray, List.set_cons_zero, List.set_cons_succ]
        exact key11.out (g0, W.heap.size) _ (⟨hb.alloc hb.size _, World.rowIs.alloc r0 _, Lw.rowB_new W M 32 HM.out.1 HM.out.2⟩)
    simp only [Act.put, List.setIfInBounds_toArray, List.set_cons_zero, List.set_cons_succ] at key100
    have key10 := Lib.hid key100
    clear key100
    refine wpAny_ready (rs := [0, 2]) (by kernel_rfl) (by simp) ?_
    refine ready_one2 (some 23) rfl rfl rfl (.slice (some ⟨D.heap.size, 0, none⟩) 32 32) (D.alloc (.cells M 5)) (by go_simp) ?_ (ready_one2 (some 25) rfl rfl rfl (.slice (some ⟨D.heap.size, 0, none⟩) 32 32) (D.alloc (.cells M 5)) (by go_simp) ?_ AllReady.nil)
    · simp only [Act.put, List.setIfInBounds_toArray, List.set_cons_zero, List.set_cons_succ]
      exact key10.out (D.heap.size, 0) _ (⟨HB.out.alloc HB.out.size _, Lw.rowB_new D M 32 HM.out.1 HM.out.2⟩)
    · simp only [Act.put, List.setIfInBounds_toArray, List.set_cons_zero, List.set_cons_succ]
      exact key01.out (0, D.heap.size) _ (⟨HB.out.alloc HB.out.size _, Lw.rowB_new D M 32 HM.out.1 HM.out.2⟩)
  simp only [Act.put, List.setIfInBounds_toArray, List.set_cons_zero, List.set_cons_succ] at key220
  have key22 := Lib.hid key220
  clear key220
  refine Lw.meetA (fun (gs : Nat × Nat) a => ((a.put (some 16) (.slice (some ⟨gs.1, 0, none⟩) 32 32)).put (some 18) (.string N9))) #[true, false, true, false, false, false, false, false, false] 7 (fun (gs : Nat × Nat) W => Below w.heap.size w W ∧ Lw.RowB W gs.1 32 (fun _ => 0)) ?_ (fun key120 => ?_)
  · rintro ⟨g0, g1⟩ W ⟨hb, r0⟩
    simp only [Act.put, List.setIfInBounds_toArray, List.set_cons_zero, List.set_cons_succ]
    have cv0 := hK.out W g0 r0
    refine wpAny_ready (rs := [1]) (by kernel_rfl) (by simp) ?_
    refine ready_one2 (some 17) rfl rfl rfl (.string Z) W (by go_simp) ?_ AllReady.nil
    · simp only [Act.put, List.setIfInBounds_toArray, List.set_cons_zero, List.set_cons_succ]

      exact key22.out (g0, 0) _ (hb)
  simp only [Act.put, List.setIfInBounds_toArray, List.set_cons_zero, List.set_cons_succ] at key120
  have key12 := Lib.hid key120
  clear key120
  refine Lw.meetA (fun (gs : Nat × Nat) a => ((a.put (some 16) (.slice (some ⟨gs.1, 0, none⟩) 32 32)).put (some 17) (.string Z))) #[true, true, false, false, false, false, false, false, false] 7 (fun (gs : Nat × Nat) W => Below w.heap.size w W) ?_ (fun key210 => ?_)
  · rintro ⟨g0, g1⟩ W hb
    simp only [Act.put, List.setIfInBounds_toArray, List.set_cons_zero, List.set_cons_succ]
    refine wpAny_ready (rs := [2]) (by kernel_rfl) (by simp) ?_
    refine ready_call2 (some 18) rfl rfl rfl 10 _ _ rfl (fun _ _ => by go_simp) #[] (by kernel_rfl) ?_ AllReady.nil
    · refine (HN.out W).mono ?_
      rintro e uq ⟨rfl, hbq⟩
      refine ⟨_, rfl, ?_⟩
      simp only [Act.put, List.setIfInBounds_toArray, List.set_cons_zero, List.set_cons_succ]
      exact key22.out (g0, 0) _ (Lw.go_on hb hbq)
  simp only [Act.put, List.setIfInBounds_toArray, List.set_cons_zero, List.set_cons_succ] at key210
  have key21 := Lib.hid key210
  clear key210
  refine Lw.meetA (fun (gs : Nat × Nat) a => (a.put (some 18) (.string N9))) #[false, false, true, false, false, false, false, false, false] 8 (fun (gs : Nat × Nat) W => Below w.heap.size w W) ?_ (fun key020 => ?_)
  · rintro ⟨g0, g1⟩ W hb
    simp only [Act.put, List.setIfInBounds_toArray, List.set_cons_zero, List.set_cons_succ]
    refine wpAny_ready (rs := [0]) (by kernel_rfl) (by simp) ?_
    refine ready_one2 (some 16) rfl rfl rfl (.slice (some ⟨W.heap.size, 0, none⟩) 32 32) (W.alloc (.cells M 5)) (by go_simp) ?_ AllReady.nil
    · simp only [Act.put, List.setIfInBounds_toArray, List.set_cons_zero, List.set_cons_succ]
      exact key12.out (W.heap.size, 0) _ (⟨hb.alloc hb.size _, Lw.rowB_new W M 32 HM.out.1 HM.out.2⟩)
  simp only [Act.put, List.setIfInBounds_toArray, List.set_cons_zero, List.set_cons_succ] at key020
  have key02 := Lib.hid key020
  clear key020
  refine Lw.meetA (fun (gs : Nat × Nat) a => (a.put (some 16) (.slice (some ⟨gs.1, 0, none⟩) 32 32))) #[true, false, false, false, false, false, false, false, false] 8 (fun (gs : Nat × Nat) W => Below w.heap.size w W ∧ Lw.RowB W gs.1 32 (fun _ => 0)) ?_ (fun key110 => ?_)
  · rintro ⟨g0, g1⟩ W ⟨hb, r0⟩
    simp only [Act.put, List.setIfInBounds_toArray, List.set_cons_zero, List.set_cons_succ]
    have cv0 := hK.out W g0 r0
    refine wpAny_ready (rs := [1, 2]) (by kernel_rfl) (by simp) ?_
    refine ready_one2 (some 17) rfl rfl rfl (.string Z) W (by go_simp) ?_ (ready_call2 (some 18) rfl rfl rfl 10 _ _ rfl (fun _ _ => by go_simp) #[] (by kernel_rfl) ?_ AllReady.nil)
    · simp only [Act.put, List.setIfInBounds_toArray, List.set_cons_zero, List.set_cons_succ]

      exact key21.out (g0, 0) _ (hb)
    · refine (HN.out W).mono ?_
      rintro e uq ⟨rfl, hbq⟩
      refine ⟨_, rfl, ?_⟩
      simp only [Act.put, List.setIfInBounds_toArray, List.set_cons_zero, List.set_cons_succ]
      exact key12.out (g0, 0) _ (⟨Lw.go_on hb hbq, r0.on hbq⟩)
  simp only [Act.put, List.setIfInBounds_toArray, List.set_cons_zero, List.set_cons_succ] at key110
  have key11 := Lib.hid key110
  clear key110
  refine wpAny_ready (rs := [0, 2]) (by kernel_rfl) (by simp) ?_
  refine ready_one2 (some 16) rfl rfl rfl (.slice (some ⟨D.heap.size, 0, none⟩) 32 32) (D.alloc (.cells M 5)) (by go_simp) ?_ (ready_call2 (some 18) rfl rfl rfl 10 _ _ rfl (fun _ _ => by go_simp) #[] (by kernel_rfl) ?_ AllReady.nil)
  · simp only [Act.put, List.setIfInBounds_toArray, List.set_cons_zero, List.set_cons_succ]
    exact key11.out (D.heap.size, 0) _ (⟨HB.out.alloc HB.out.size _, Lw.rowB_new D M 32 HM.out.1 HM.out.2⟩)
  · refine (HN.out D).mono ?_
    rintro e uq ⟨rfl, hbq⟩
    refine ⟨_, rfl, ?_⟩
    simp only [Act.put, List.setIfInBounds_toArray, List.set_cons_zero, List.set_cons_succ]
    exact key02.out (0, 0) _ (Lw.go_on HB.out hbq)
end Go.Proofs.Xw
