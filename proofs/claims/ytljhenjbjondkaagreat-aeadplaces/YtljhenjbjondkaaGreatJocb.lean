/-
  The three suites: what halberdlaw8's awake answers.
-/
import Derived.Test.YtljhenjbjondkaaGreatJoca
import Derived.Test.YtljhenjbjondkaaGreatJoax
import Derived.Deep.DeepCutAuto
import Derived.Deep.RegionHeld3
import Derived.Test.YtljhenjbjondkaaGreatJobk
import Derived.Test.YtljhenjbjondkaaGreatJoby
namespace Go.Proofs.Ew
open Go.RowKit
open Go.Proofs.Cha (z32 z12)
open Go.Proofs.Pol (sealT abcS open_seal poS poE openOk sealOk_iff)
open Go.Proofs.Ad
open Go.Proofs.Lw (num_same wpList_val pieceS)
theorem seal8_abc : s8S 4867 z32 z12 ⟨#[]⟩ abcS = c19 ∧ s8E 4867 z32 z12 ⟨#[]⟩ abcS = 0 := by
  have ok : s8Ok 4867 z32 z12 ⟨#[]⟩ abcS = true := by decide +kernel
  refine ⟨?_, by unfold s8E; rw [ok]; rfl⟩
  unfold s8S s8T
  rw [ok, if_pos rfl]
  exact seal_abc
theorem open_abc : openOk z32 z12 ⟨#[]⟩ c19 = true ∧ poS z32 z12 ⟨#[]⟩ c19 = abcS := by
  have so : Pol.sealOk z32 z12 ⟨#[]⟩ abcS = true := by decide +kernel
  have h := open_seal z32 z12 ⟨#[]⟩ abcS so
  rw [seal_abc] at h
  refine ⟨?_, h.1⟩
  cases hb : openOk z32 z12 ⟨#[]⟩ c19
  · have := h.2
    unfold poE at this
    rw [hb] at this
    exact absurd this (by decide)
  · rfl
theorem open8_abc : o8S 4867 z32 z12 ⟨#[]⟩ c19 = abcS ∧ o8E 4867 z32 z12 ⟨#[]⟩ c19 = 0 ∧ o8X 4867 z32 z12 ⟨#[]⟩ c19 = abcS ++ c19.extract 3 19 := by
  have f : o8F 4867 z32 z12 ⟨#[]⟩ c19 = true := by decide +kernel
  have b : o8B 4867 z32 z12 ⟨#[]⟩ c19 = true := by unfold o8B; rw [if_pos rfl]; exact open_abc.1
  have t : o8T 4867 z32 z12 ⟨#[]⟩ c19 = abcS := by unfold o8T; rw [if_pos rfl]; exact open_abc.2
  refine ⟨by unfold o8S; rw [f, b, t]; rfl, by unfold o8E; rw [f, b]; rfl, ?_⟩
  unfold o8X
  rw [f, b, t]
  rfl
theorem in8_abc : i8X 4867 z32 z12 ⟨#[]⟩ (abcS ++ c19.extract 3 19) = c19 ∧ i8E 4867 z32 z12 ⟨#[]⟩ (abcS ++ c19.extract 3 19) = 0 := by
  have e : (abcS ++ c19.extract 3 19).extract 0 ((abcS ++ c19.extract 3 19).size - 16) = abcS := by decide +kernel
  have ok : i8Ok 4867 z32 z12 ⟨#[]⟩ (abcS ++ c19.extract 3 19) = true := by
    unfold i8Ok
    rw [e]
    decide +kernel
  refine ⟨?_, by unfold i8E; rw [ok]; rfl⟩
  unfold i8X s8T
  rw [ok, e, if_pos rfl]
  exact seal_abc
theorem open8_no : o8S 4865 (z32.extract 0 16) z12 ⟨#[]⟩ c19 = ⟨#[]⟩ ∧ o8E 4865 (z32.extract 0 16) z12 ⟨#[]⟩ c19 = 801 := by
  have e : z32.extract 0 16 = Gcm.z16 := by decide +kernel
  have ez : z12 = Gcm.z12 := rfl
  have f : o8F 4865 (z32.extract 0 16) z12 ⟨#[]⟩ c19 = true := by decide +kernel
  have b : o8B 4865 (z32.extract 0 16) z12 ⟨#[]⟩ c19 = false := by unfold o8B; rw [if_neg (by decide), e, ez]; exact gcm_refuses
  exact ⟨by unfold o8S; rw [f, b]; rfl, by unfold o8E; rw [f, b]; rfl⟩
theorem seal8_no : s8S 7 ⟨#[]⟩ ⟨#[]⟩ ⟨#[]⟩ ⟨#[]⟩ = ⟨#[]⟩ ∧ s8E 7 ⟨#[]⟩ ⟨#[]⟩ ⟨#[]⟩ ⟨#[]⟩ = 800 := by
  have f : s8Ok 7 ⟨#[]⟩ ⟨#[]⟩ ⟨#[]⟩ ⟨#[]⟩ = false := by decide +kernel
  exact ⟨by unfold s8S; rw [f]; rfl, by unfold s8E; rw [f]; rfl⟩
theorem nought32 (W : World) (g : Nat) (r : Lw.RowB W g 32 (fun _ => 0)) : (Go.convert 35 9 (.slice (some ⟨g, 0, none⟩) 32 32)).run Tryz.prog W = .ok (.string z32) W := r.text 0 32 32 (by decide)
set_option maxHeartbeats 2000000 in
set_option maxRecDepth 20000 in
theorem awake8_any (w : World) : Calls Tryz.prog 12 #[] w fun e w' => e = .returned (.bool true) ∧ Below w.heap.size w w' := by
  obtain ⟨M, hM, hMc, hmk0⟩ := Lw.zeros 32 (by decide)
  have hmk : ∀ W : World, (Instr.makeSlice 35 (.int .i64 32) (.int .i64 32)).run Tryz.prog W = .ok (.slice (some ⟨W.heap.size, 0, none⟩) 32 32) (W.alloc (.cells M 5)) := hmk0
  have hcv := nought32 _ _ (Lw.rowB_new w M 32 hM hMc)
  clear hmk0 hM hMc
  go_enter Tryz.func12, Tryz.ntmps12
  go_upto_region 1 with (fail)
  apply wp_region_lit
  refine wpList_val rfl (.slice (some ⟨w.heap.size, 0, none⟩) 32 32) (w.alloc (.cells M 5)) (by go_simp) ?_
  refine wpList_val rfl (.string z32) (w.alloc (.cells M 5)) (by go_simp) ?_
  simp only [Act.put, List.setIfInBounds_toArray, List.set_cons_zero, List.set_cons_succ]
  have HB : Hid (Below w.heap.size w (w.alloc (.cells M 5))) := (Below.refl _ _).alloc (Nat.le_refl _) _
  generalize w.alloc (.cells M 5) = w1 at HB
  clear hmk hcv
  have hz : z32.size = 32 := by decide
  have hx : z32.extract 0 12 = z12 := by decide +kernel
  have hs : c19.size = 19 := by decide
  have k0 : Hid (∀ w, Calls Tryz.prog 5 #[.int .i64 4866] w fun e w' => e = .returned (.tuple #[.int .i64 32, .int .i64 384, .int .i64 0]) ∧ Below w.heap.size w w') := fun w => Ed.sizes_any 4866 w
  have k1 : Hid (∀ w, Calls Tryz.prog 7 #[.int .i64 4867, .string z32, .string z12, .string ⟨#[]⟩, .string ⟨#[97, 98, 99]⟩] w fun e w' => e = .returned (.tuple #[.string c19, .int .i64 0]) ∧ Below w.heap.size w w') := fun w => by
    have h := Ed.seal_any 4867 z32 z12 ⟨#[]⟩ abcS w
    rw [seal8_abc.1, seal8_abc.2] at h
    exact h
  have k2 : Hid (∀ (w : World) (g c1 c2 : Nat) (X : Nat → Nat), 2 ≤ c1 → 17 ≤ c2 → Seg w g 0 19 X → pieceS X 0 19 = c19 → Calls Tryz.prog 13 #[.int .i64 4867, .string z32, .string z12, .string ⟨#[]⟩, .slice (some ⟨g, 0, none⟩) 2 c1, .slice (some ⟨g, 2, none⟩) 17 c2] w fun e w' => e = .returned (.tuple #[.int .i64 3, .int .i64 0]) ∧ Pd.But g w w' ∧ ∃ Y, Seg w' g 0 19 Y ∧ pieceS Y 0 19 = abcS ++ c19.extract 3 19) := fun w g c1 c2 X q1 q2 hS hX => by
    have h := Ed.openIn_any 4867 z32 z12 ⟨#[]⟩ g 0 2 17 19 c1 c2 _ _ X w hS (.inr rfl) (.inr rfl) rfl (by decide) q1 q2
    rw [hX, open8_abc.1, open8_abc.2.1, open8_abc.2.2] at h
    exact h
  have k3 : Hid (∀ (w : World) (g c1 c2 : Nat) (X : Nat → Nat), 7 ≤ c1 → 12 ≤ c2 → Seg w g 0 19 X → pieceS X 0 19 = abcS ++ c19.extract 3 19 → Calls Tryz.prog 14 #[.int .i64 4867, .string z32, .string z12, .string ⟨#[]⟩, .slice (some ⟨g, 0, none⟩) 7 c1, .slice (some ⟨g, 7, none⟩) 12 c2] w fun e w' => e = .returned (.int .i64 0) ∧ Pd.But g w w' ∧ ∃ Y, Seg w' g 0 19 Y ∧ pieceS Y 0 19 = c19) := fun w g c1 c2 X q1 q2 hS hX => by
    have h := Ed.sealIn_any 4867 z32 z12 ⟨#[]⟩ g 0 7 12 19 c1 c2 _ _ X w hS (.inr rfl) (.inr rfl) rfl (by decide) q1 q2
    rw [hX, in8_abc.1, in8_abc.2] at h
    exact h
  obtain ⟨Z6, e6⟩ : ∃ Z, z32.extract 0 16 = Z := ⟨_, rfl⟩
  have k4 : Hid (∀ w, Calls Tryz.prog 9 #[.int .i64 4865, .string Z6, .string z12, .string ⟨#[]⟩, .string c19] w fun e w' => e = .returned (.tuple #[.string ⟨#[]⟩, .int .i64 801]) ∧ Below w.heap.size w w') := fun w => by
    have h := Ed.open_any 4865 (z32.extract 0 16) z12 ⟨#[]⟩ c19 w (by decide)
    rw [open8_no.1, open8_no.2, e6] at h
    exact h
  have k5 : Hid (∀ w, Calls Tryz.prog 7 #[.int .i64 7, .string ⟨#[]⟩, .string ⟨#[]⟩, .string ⟨#[]⟩, .string ⟨#[]⟩] w fun e w' => e = .returned (.tuple #[.string ⟨#[]⟩, .int .i64 800]) ∧ Below w.heap.size w w') := fun w => by
    have h := Ed.seal_any 7 ⟨#[]⟩ ⟨#[]⟩ ⟨#[]⟩ ⟨#[]⟩ w
    rw [seal8_no.1, seal8_no.2] at h
    exact h
  generalize abcS ++ c19.extract 3 19 = V at k2 k3
  have hbr := fun W => bytes_run W c19
  rw [hs] at hbr
  have HSg := Lib.hid (fun W => bytes_seg W c19)
  rw [hs] at HSg
  have HPb : Hid (pieceS (Aes.byt c19) 0 19 = c19) := piece_byt c19
  have HWb := Lib.hid (fun W => bytes_below W c19)
  generalize Aes.byt c19 = Xb at HSg HPb
  generalize c19 = S at k1 k2 k3 k4 hs hbr HSg HPb HWb
  generalize z32 = Z at *
  generalize z12 = N at *
  go_wp2_with (go_at_call 5; fail)
  refine (k0.out _).mono ?_
  rintro e u0 ⟨rfl, hb⟩
  have HB := Lib.hid (Lw.go_on HB.out hb)
  clear hb
  go_wp2_with (go_at_call 7; fail)
  refine (k1.out _).mono ?_
  rintro e u1 ⟨rfl, hb⟩
  have HB := Lib.hid (Lw.go_on HB.out hb)
  clear hb
  have hcap := grownCap_ge u1 19 0 5
  go_upto_region 7 with (fail)
  clear hbr
  have HSe := Lib.hid (HSg.out u1)
  have HBe : Hid (Below w.heap.size w (bytesW u1 S)) := Lw.go_on HB.out (HWb.out u1)
  have HG : Hid (w.heap.size ≤ u1.heap.size) := HB.out.size
  clear HSg HWb HB
  generalize bytesW u1 S = v0 at HSe HBe ⊢
  generalize u1.heap.size = g at HSe HG ⊢
  generalize grownCap u1 19 0 5 = C at hcap ⊢
  have hc2 : (2 : Int) ≤ (C : Int) := by omega
  have hc7 : (7 : Int) ≤ (C : Int) := by omega
  have hc19 : (19 : Int) ≤ (C : Int) := by omega
  have hn2 : (C = 2) = False := eq_false (by omega)
  have hn7 : (C = 7) = False := eq_false (by omega)
  have hSd := HSe.out.drew
  have HBd : Hid (Below w.heap.size w v0.drew) := HBe.out.drew
  go_region_held3 (fun _ => True) (trivial)
    (first | (go_at_call 13; refine (k2.out _ _ _ _ _ (by omega) (by omega) hSd HPb.out).mono ?_; rintro e u2 ⟨rfl, hbut, Y, hY, hYt⟩))
  have HB := Lib.hid (hbut.below HBd.out HG.out HBd.out.size)
  have HSe := Lib.hid hY
  have HPb := Lib.hid hYt
  clear hbut hY hYt HBd HBe hSd
  go_upto_region 8 with (fail)
  have hSd := HSe.out.drew
  have HBd : Hid (Below w.heap.size w u2.drew) := HB.out.drew
  go_region_held3 (fun _ => True) (trivial)
    (first | (go_at_call 14; refine (k3.out _ _ _ _ _ (by omega) (by omega) hSd HPb.out).mono ?_; rintro e u3 ⟨rfl, hbut, Y2, hY, hYt⟩))
  have HB := Lib.hid (hbut.below HBd.out HG.out HBd.out.size)
  have HSe := Lib.hid hY
  have HPb := Lib.hid hYt
  clear hbut hY hYt HBd hSd
  go_upto_region 9 with (fail)
  have HBd : Hid (Below w.heap.size w u3.drew) := HB.out.drew
  have hSd := HSe.out.drew
  go_region_held3 (fun _ => True) (trivial)
    (first | (go_at_call 9; refine (k4.out _).mono ?_; rintro e u4 ⟨rfl, hb⟩))
  have HB := Lib.hid (Lw.go_on HBd.out hb)
  have hS4 := hSd.on hb
  clear hb HBd HSe hSd
  go_wp2_with (go_at_call 7; fail)
  refine (k5.out _).mono ?_
  rintro e u5 ⟨rfl, hb⟩
  have HB := Lib.hid (Lw.go_on HB.out hb)
  have hS5 := hS4.on hb
  have hct := hS5.text C
  rw [HPb.out] at hct
  clear hb hS4 hS5
  go_wp2_with (go_at_call 11; refine (num_same _ _).mono ?_; rintro e u5 ⟨rfl, rfl⟩)
  go_ret
  exact ⟨rfl, HB.out⟩
end Go.Proofs.Ew
/-
  The three suites: forms for AeadSuites.
-/
namespace Go.Proofs.Ew
open Go.RowKit
open Go.Proofs.Ad
open Go.Proofs.Pol (sealT openOk poS poE)
theorem s8_of {z : Int} {K N A s : ByteArray} (h0 : sizE z = 0) (h1 : (K.size : Int) = sizK z) (hn : N.size = 12) (ha : A.size ≤ 65536) (hs : s.size ≤ 65536) : s8S z K N A s = s8T z K N A s ∧ s8E z K N A s = 0 := by
  have ok := (s8_iff z K N A s).2 ⟨⟨⟨h0, h1⟩, hn, ha⟩, hs⟩
  exact ⟨by unfold s8S; rw [ok]; rfl, by unfold s8E; rw [ok]; rfl⟩
theorem seal8_fine (z : Int) (K N A s : ByteArray) (w : World) (h0 : sizE z = 0) (h1 : (K.size : Int) = sizK z) (hn : N.size = 12) (ha : A.size ≤ 65536) (hs : s.size ≤ 65536) :
    Calls Tryz.prog 7 #[.int .i64 z, .string K, .string N, .string A, .string s] w fun e w' => e = .returned (.tuple #[.string (s8T z K N A s), .int .i64 0]) ∧ Below w.heap.size w w' := by
  have h := Ed.seal_any z K N A s w
  have e := s8_of h0 h1 hn ha hs
  rw [e.1, e.2] at h
  exact h
theorem gseal_fine (K N A s : ByteArray) (w : World) (hk : Gcm.keyOk K = true) (hn : N.size = 12) (ha : A.size ≤ 65536) (hs : s.size ≤ 65536) :
    Calls Tryz.prog 16 #[.string K, .string N, .string A, .string s] w fun e w' => e = .returned (.tuple #[.string (Gcm.sealS K N A s), .int .i64 0]) ∧ Below w.heap.size w w' := by
  have h := Gs.seal_any K N A s w
  have ok := gcmOk_of (more := 0) hk hn ha hs
  rw [show Gcm.gcmS K N A s = Gcm.sealS K N A s by unfold Gcm.gcmS; rw [ok]; rfl, show Gcm.gcmE K N A s = 0 by unfold Gcm.gcmE; rw [ok]; rfl] at h
  exact h
theorem open8_three (K N A t : ByteArray) (hk : K.size = 32) (hn : N.size = 12) (ha : A.size ≤ 65536) (ht : t.size ≤ 65552) :
    (o8S 4867 K N A t = poS K N A t) ∧ (o8E 4867 K N A t = 0 ∧ poE K N A t = 0 ∨ o8E 4867 K N A t = 801 ∧ poE K N A t = 700) := by
  have f : o8F 4867 K N A t = true := (o8_iff 4867 K N A t).2 ⟨⟨⟨siz_three.2.2, by rw [siz_three.1]; omega⟩, hn, ha⟩, ht⟩
  have eb : o8B 4867 K N A t = openOk K N A t := by unfold o8B; rw [if_pos rfl]
  have et : o8T 4867 K N A t = poS K N A t := by unfold o8T; rw [if_pos rfl]
  unfold o8S o8E
  rw [f, eb, et]
  cases hb : openOk K N A t
  · exact ⟨by unfold poS; rw [hb]; rfl, .inr ⟨rfl, by unfold poE; rw [hb]; rfl⟩⟩
  · exact ⟨rfl, .inl ⟨rfl, by unfold poE; rw [hb]; rfl⟩⟩
end Go.Proofs.Ew
/-
  The three suites: forms for AeadPlaces, AeadBack and AeadTwins.
-/
namespace Go.Proofs.Ew
open Go.RowKit
open Go.Proofs.Ad
open Go.Proofs.Pol (sealT sealT_size openOk poS poE open_seal)
/-- Where a row of n bytes is cut. -/
theorem cut_of (z : Int) (n : Nat) : ∃ k : Nat, k ≤ n ∧ (IntKind.u64.wrap z).tmod ((n : Int) + 1) = (k : Int) ∧ (IntKind.u64.wrap z) % ((n : Int) + 1) = (k : Int) := by
  have h0 : 0 ≤ IntKind.u64.wrap z := by show 0 ≤ z % 18446744073709551616; omega
  have h1 := Int.emod_nonneg (IntKind.u64.wrap z) (show ((n : Int) + 1) ≠ 0 by omega)
  have h2 := Int.emod_lt_of_pos (IntKind.u64.wrap z) (show (0 : Int) < (n : Int) + 1 by omega)
  refine ⟨(IntKind.u64.wrap z % ((n : Int) + 1)).toNat, by omega, ?_, by omega⟩
  rw [Int.tmod_eq_emod_of_nonneg h0]
  omega
/-- Behind OpenIn. -/
theorem o8_cases (z : Int) (key nonce aad s : ByteArray) :
    (o8E z key nonce aad s = 0 ∧ o8X z key nonce aad s = o8S z key nonce aad s ++ s.extract (o8S z key nonce aad s).size s.size ∧ (o8S z key nonce aad s).size + 16 = s.size) ∨
    ((o8E z key nonce aad s = 800 ∨ o8E z key nonce aad s = 801) ∧ o8X z key nonce aad s = s ∧ o8S z key nonce aad s = ⟨#[]⟩) := by
  have hs := o8T_size z key nonce aad s
  unfold o8E o8X o8S
  cases hf : o8F z key nonce aad s
  · exact .inr ⟨.inl rfl, rfl, rfl⟩
  · cases hb : o8B z key nonce aad s
    · exact .inr ⟨.inr rfl, rfl, rfl⟩
    · exact .inl ⟨rfl, rfl, hs hb⟩
/-- Behind SealIn. -/
theorem i8_short (z : Int) (key nonce aad s : ByteArray) (h : s.size < 16) : i8E z key nonce aad s = 800 ∧ i8X z key nonce aad s = s := by
  have e : i8Ok z key nonce aad s = false := by unfold i8Ok; rw [decide_eq_false (by omega)]; rfl
  unfold i8E i8X
  rw [e]
  exact ⟨rfl, rfl⟩
theorem i8_long (z : Int) (key nonce aad s : ByteArray) (h : 16 ≤ s.size) :
    (i8E z key nonce aad s = 0 ∧ s8E z key nonce aad (s.extract 0 (s.size - 16)) = 0 ∧ i8X z key nonce aad s = s8S z key nonce aad (s.extract 0 (s.size - 16))) ∨
    (i8E z key nonce aad s = 800 ∧ s8E z key nonce aad (s.extract 0 (s.size - 16)) = 800 ∧ i8X z key nonce aad s = s) := by
  unfold i8E i8X s8E s8S i8Ok
  rw [decide_eq_true h]
  cases s8Ok z key nonce aad (s.extract 0 (s.size - 16))
  · exact .inr ⟨rfl, rfl, rfl⟩
  · exact .inl ⟨rfl, rfl, rfl⟩
end Go.Proofs.Ew
