/-
  The developers' aead: SealIn at every input: two pieces that lie one behind the other.
-/
import Derived.Test.YtljhenjbjondkaaJobz
import Derived.Test.YtljhenjbjondkaaJoan
import Derived.Deep.DeepCutAuto
import Derived.Deep.RegionHeld3
namespace Go.Proofs.Ed
open Go.RowKit Go.Proofs.Ad
open Go.Proofs.Ew (Seg byt_part part_of)
open Go.Proofs.Pd (But)
open Go.Proofs.Lw (pieceS)
open Go.Proofs.Aes (byt byt_lt get_byt)
theorem seal_fits (z : Int) (key nonce aad : ByteArray) (X : Nat → Nat) (n : Nat) (w : World) :
    Calls Try.prog 18 #[.int .i64 z, .string key, .string nonce, .string aad, .int .i64 (n : Int)] w fun e w' => e = .returned (.bool (s8Ok z key nonce aad (pieceS X 0 n))) ∧ w' = w := by
  have h := fits_any z key nonce aad (n : Int) w
  have e := f8_fit z key nonce aad (pieceS X 0 n)
  rw [Lw.pieceS_size] at e
  rw [e] at h
  exact h
set_option maxHeartbeats 2000000 in
set_option maxRecDepth 20000 in
theorem sealIn_short (z : Int) (key nonce aad : ByteArray) (k m n c1 c2 : Nat) (p1 p2 : Option Addr) (w : World) (hk : k + m = n) (hn : n < 16) :
    Calls Try.prog 9 #[.int .i64 z, .string key, .string nonce, .string aad, .slice p1 k c1, .slice p2 m c2] w fun e w' => e = .returned (.int .i64 800) ∧ Below w.heap.size w w' := by
  have HSz := Lib.hid fun W => psize_any p1 p2 k m c1 c2 W (by omega)
  rw [hk] at HSz
  obtain ⟨D, hD⟩ : ∃ D : Int, (n : Int) - 16 = D := ⟨_, rfl⟩
  have q : IntKind.i64.wrap ((n : Int) - 16) = D := by rw [IntWalk.i64_in _ (by omega), hD]
  have q2 : (D < 0) = True := eq_true (by omega)
  clear hk hn hD
  go_enter Try.func9, Try.ntmps9
  go_wp2_with (go_at_call 17; refine (HSz.out _).mono ?_; rintro e u ⟨rfl, hb⟩)
  go_ret
  exact ⟨rfl, Lw.go_on ((Below.refl _ _).alloc (Nat.le_refl _) _) hb⟩
set_option maxHeartbeats 2000000 in
set_option maxRecDepth 20000 in
theorem sealIn_no (z : Int) (key nonce aad : ByteArray) (k m n N c1 c2 : Nat) (p1 p2 : Option Addr) (X : Nat → Nat) (w : World) (hk : k + m = n) (hn : n ≤ 140737488355328) (hN : n = N + 16) (hf : s8Ok z key nonce aad (pieceS X 0 N) = false) :
    Calls Try.prog 9 #[.int .i64 z, .string key, .string nonce, .string aad, .slice p1 k c1, .slice p2 m c2] w fun e w' => e = .returned (.int .i64 800) ∧ Below w.heap.size w w' := by
  have HSz := Lib.hid fun W => psize_any p1 p2 k m c1 c2 W (by omega)
  rw [hk] at HSz
  have HF := Lib.hid fun W => seal_fits z key nonce aad X N W
  rw [hf] at HF
  have q : IntKind.i64.wrap ((n : Int) - 16) = (N : Int) := by rw [IntWalk.i64_in _ (by omega)]; omega
  have q2 : ((N : Int) < 0) = False := eq_false (by omega)
  clear hk hn hN hf
  go_enter Try.func9, Try.ntmps9
  go_wp2_with (first
    | (go_at_call 17; refine (HSz.out _).mono ?_; rintro e u ⟨rfl, hb⟩)
    | (go_at_call 18; refine (HF.out _).mono ?_; rintro e v ⟨rfl, rfl⟩))
  go_ret
  exact ⟨rfl, Lw.go_on ((Below.refl _ _).alloc (Nat.le_refl _) _) hb⟩
set_option maxHeartbeats 2000000 in
set_option maxRecDepth 20000 in
theorem sealIn_good (z : Int) (key nonce aad : ByteArray) (g o k m n N c1 c2 : Nat) (p1 p2 : Option Addr) (X : Nat → Nat) (w : World) (h : Seg w g o n X) (h1 : k = 0 ∨ p1 = some ⟨g, o, none⟩) (h2 : m = 0 ∨ p2 = some ⟨g, o + k, none⟩) (hk : k + m = n) (hc1 : k ≤ c1) (hc2 : m ≤ c2) (hN : n = N + 16) (hN2 : N ≤ 65536)
    (hf : s8Ok z key nonce aad (pieceS X 0 N) = true) :
    Calls Try.prog 9 #[.int .i64 z, .string key, .string nonce, .string aad, .slice p1 k c1, .slice p2 m c2] w fun e w' => e = .returned (.int .i64 0) ∧ But g w w' ∧ Seg w' g o n (fun t => if t < (s8T z key nonce aad (pieceS X 0 N)).size then byt (s8T z key nonce aad (pieceS X 0 N)) t else X t) := by
  have HSz := Lib.hid fun (u : World) (hS : BoxP w u (.slice p1 k c1) (.slice p2 m c2)) => psize_held hS p1 p2 k m n c1 c2 hk (by omega)
  have HF := Lib.hid fun W => seal_fits z key nonce aad X N W
  have HS2 := Lib.hid fun (u : World) (hS : BoxP w u (.slice p1 k c1) (.slice p2 m c2)) => ptext_held hS g o k m n c1 c2 N p1 p2 X h h1 h2 hk hc1 hc2 (by omega) (by omega) (by omega)
  have HS3 := Lib.hid fun (u : World) => seal_ok z key nonce aad _ u hf
  have ht := s8T_size z key nonce aad (pieceS X 0 N)
  rw [Lw.pieceS_size] at ht
  rw [hf] at HF
  have q : IntKind.i64.wrap ((n : Int) - 16) = (N : Int) := by rw [IntWalk.i64_in _ (by omega)]; omega
  have q2 : ((N : Int) < 0) = False := eq_false (by omega)
  generalize s8T z key nonce aad (pieceS X 0 N) = T at HS3 ht ⊢
  have HPut := Lib.hid fun (u : World) (hS : BoxP w u (.slice p1 k c1) (.slice p2 m c2)) => pput_any g o k m n c1 c2 T p1 p2 X u (h.on hS.2.2.1) h1 h2 hk hc1 hc2 (by omega) (by omega)
  generalize pieceS X 0 N = S at HS2 HS3
  clear h h1 h2 hk hc1 hc2 hN hN2 hf ht
  go_enter Try.func9, Try.ntmps9
  go_upto_region 2 with (fail)
  have hS0 := BoxP.new w (.slice p1 k c1) (.slice p2 m c2)
  generalize w.alloc (.cells #[.slice p1 k c1, .slice p2 m c2] 40) = w1 at hS0 ⊢
  have hA := hS0.1
  have hB := hS0.2.1
  go_wp2_with (go_at_call 17; refine (HSz.out _ hS0).mono ?_; rintro e u ⟨rfl, hS1⟩)
  clear hA hB hS0 HSz
  have hA := hS1.1
  have hB := hS1.2.1
  go_wp2_with (first
    | (go_at_call 18; refine (HF.out _).mono ?_; rintro e v ⟨rfl, rfl⟩)
    | (go_at_call 19; refine (HS2.out _ hS1).mono ?_; rintro e u2 ⟨rfl, hS2⟩)
    | (go_at_call 10; refine (HS3.out _).mono ?_; rintro e u3 ⟨rfl, hb3⟩; have hS3 := hS2.on hb3; have hA3 := hS3.1; have hB3 := hS3.2.1)
    | (go_at_call 20; refine (HPut.out _ hS3).mono ?_; rintro e u4 ⟨rfl, hBu, hR⟩))
  go_ret
  exact ⟨rfl, (But.of_below hS3.2.2.1).trans hBu, hR⟩
theorem sealIn_any (z : Int) (key nonce aad : ByteArray) (g o k m n c1 c2 : Nat) (p1 p2 : Option Addr) (X : Nat → Nat) (w : World) (h : Seg w g o n X) (h1 : k = 0 ∨ p1 = some ⟨g, o, none⟩) (h2 : m = 0 ∨ p2 = some ⟨g, o + k, none⟩) (hk : k + m = n) (hn : n ≤ 140737488355328) (hc1 : k ≤ c1) (hc2 : m ≤ c2) :
    Calls Try.prog 9 #[.int .i64 z, .string key, .string nonce, .string aad, .slice p1 k c1, .slice p2 m c2] w fun e w' =>
      e = .returned (.int .i64 (i8E z key nonce aad (pieceS X 0 n))) ∧ But g w w' ∧ ∃ Y, Seg w' g o n Y ∧ pieceS Y 0 n = i8X z key nonce aad (pieceS X 0 n) := by
  have zs := Lw.pieceS_size X 0 n
  have hno : i8Ok z key nonce aad (pieceS X 0 n) = false → i8E z key nonce aad (pieceS X 0 n) = 800 ∧ i8X z key nonce aad (pieceS X 0 n) = pieceS X 0 n := fun e => ⟨by unfold i8E; rw [e]; rfl, by unfold i8X; rw [e]; rfl⟩
  rcases Nat.lt_or_ge n 16 with hs | hs
  · obtain ⟨e1, e2⟩ := hno (by unfold i8Ok; rw [decide_eq_false (by omega)]; rfl)
    rw [e1, e2]
    exact (sealIn_short z key nonce aad k m n c1 c2 p1 p2 w hk hs).mono fun e w' ⟨e1, e2⟩ => ⟨e1, But.of_below e2, X, h.on e2, rfl⟩
  · obtain ⟨N, hN⟩ : ∃ N, n = N + 16 := ⟨n - 16, by omega⟩
    have ex : (pieceS X 0 n).extract 0 ((pieceS X 0 n).size - 16) = pieceS X 0 N := by
      rw [zs, show n - 16 = N by omega]
      exact (part_of X n 0 N (by omega) (Nat.zero_le _)).symm
    have ok : i8Ok z key nonce aad (pieceS X 0 n) = s8Ok z key nonce aad (pieceS X 0 N) := by unfold i8Ok; rw [decide_eq_true (by omega), ex, Bool.true_and]
    cases hf : s8Ok z key nonce aad (pieceS X 0 N)
    · obtain ⟨e1, e2⟩ := hno (ok.trans hf)
      rw [e1, e2]
      exact (sealIn_no z key nonce aad k m n N c1 c2 p1 p2 X w hk hn hN hf).mono fun e w' ⟨e1, e2⟩ => ⟨e1, But.of_below e2, X, h.on e2, rfl⟩
    · have hz : N ≤ 65536 := by have := ((s8_iff z key nonce aad _).1 hf).2; rwa [Lw.pieceS_size] at this
      have e1 : i8E z key nonce aad (pieceS X 0 n) = 0 := by unfold i8E; rw [ok, hf]; rfl
      have e2 : i8X z key nonce aad (pieceS X 0 n) = s8T z key nonce aad (pieceS X 0 N) := by unfold i8X; rw [ok, hf, ex]; rfl
      have ht := s8T_size z key nonce aad (pieceS X 0 N)
      rw [Lw.pieceS_size] at ht
      rw [e1, e2]
      refine (sealIn_good z key nonce aad g o k m n N c1 c2 p1 p2 X w h h1 h2 hk hc1 hc2 hN hz hf).mono fun e w' ⟨e1, e2, e3⟩ => ⟨e1, e2, _, e3, ?_⟩
      rw [over_text X _ n (by omega), show (s8T z key nonce aad (pieceS X 0 N)).size = n by omega, ByteArray.extract_eq_empty_iff.2 (by omega), ByteArray.append_empty]
end Go.Proofs.Ed
/-
  The three suites: what halberdlaw8's awake answers.
-/
namespace Go.Proofs.Ew
open Go.RowKit
open Go.Proofs.Cha (z32 z12)
open Go.Proofs.Pol (sealT abcS open_seal poS poE openOk sealOk_iff)
open Go.Proofs.Ad
open Go.Proofs.Lw (num_same wpList_val pieceS)
theorem seal8_abc : s8S 4867 z32 z12 ⟨#[]⟩ abcS = c19 ∧ s8E 4867 z32 z12 ⟨#[]⟩ abcS = 0 := by
  have ok : s8Ok 4867 z32 z12 ⟨#[]⟩ abcS = true := by decide +kernel
  refine ⟨?_, by unfold s8E; rw [ok]; rfl⟩
  unfold s8S s8T
  rw [ok, if_pos rfl]
  exact seal_abc
theorem open_abc : openOk z32 z12 ⟨#[]⟩ c19 = true ∧ poS z32 z12 ⟨#[]⟩ c19 = abcS := by
  have so : Pol.sealOk z32 z12 ⟨#[]⟩ abcS = true := by decide +kernel
  have h := open_seal z32 z12 ⟨#[]⟩ abcS so
  rw [seal_abc] at h
  refine ⟨?_, h.1⟩
  cases hb : openOk z32 z12 ⟨#[]⟩ c19
  · have := h.2
    unfold poE at this
    rw [hb] at this
    exact absurd this (by decide)
  · rfl
theorem open8_abc : o8S 4867 z32 z12 ⟨#[]⟩ c19 = abcS ∧ o8E 4867 z32 z12 ⟨#[]⟩ c19 = 0 ∧ o8X 4867 z32 z12 ⟨#[]⟩ c19 = abcS ++ c19.extract 3 19 := by
  have f : o8F 4867 z32 z12 ⟨#[]⟩ c19 = true := by decide +kernel
  have b : o8B 4867 z32 z12 ⟨#[]⟩ c19 = true := by unfold o8B; rw [if_pos rfl]; exact open_abc.1
  have t : o8T 4867 z32 z12 ⟨#[]⟩ c19 = abcS := by unfold o8T; rw [if_pos rfl]; exact open_abc.2
  refine ⟨by unfold o8S; rw [f, b, t]; rfl, by unfold o8E; rw [f, b]; rfl, ?_⟩
  unfold o8X
  rw [f, b, t]
  rfl
theorem in8_abc : i8X 4867 z32 z12 ⟨#[]⟩ (abcS ++ c19.extract 3 19) = c19 ∧ i8E 4867 z32 z12 ⟨#[]⟩ (abcS ++ c19.extract 3 19) = 0 := by
  have e : (abcS ++ c19.extract 3 19).extract 0 ((abcS ++ c19.extract 3 19).size - 16) = abcS := by decide +kernel
  have ok : i8Ok 4867 z32 z12 ⟨#[]⟩ (abcS ++ c19.extract 3 19) = true := by
    unfold i8Ok
    rw [e]
    decide +kernel
  refine ⟨?_, by unfold i8E; rw [ok]; rfl⟩
  unfold i8X s8T
  rw [ok, e, if_pos rfl]
  exact seal_abc
theorem open8_no : o8S 4865 (z32.extract 0 16) z12 ⟨#[]⟩ c19 = ⟨#[]⟩ ∧ o8E 4865 (z32.extract 0 16) z12 ⟨#[]⟩ c19 = 801 := by
  have e : z32.extract 0 16 = Gcm.z16 := by decide +kernel
  have ez : z12 = Gcm.z12 := rfl
  have f : o8F 4865 (z32.extract 0 16) z12 ⟨#[]⟩ c19 = true := by decide +kernel
  have b : o8B 4865 (z32.extract 0 16) z12 ⟨#[]⟩ c19 = false := by unfold o8B; rw [if_neg (by decide), e, ez]; exact gcm_refuses
  exact ⟨by unfold o8S; rw [f, b]; rfl, by unfold o8E; rw [f, b]; rfl⟩
theorem seal8_no : s8S 7 ⟨#[]⟩ ⟨#[]⟩ ⟨#[]⟩ ⟨#[]⟩ = ⟨#[]⟩ ∧ s8E 7 ⟨#[]⟩ ⟨#[]⟩ ⟨#[]⟩ ⟨#[]⟩ = 800 := by
  have f : s8Ok 7 ⟨#[]⟩ ⟨#[]⟩ ⟨#[]⟩ ⟨#[]⟩ = false := by decide +kernel
  exact ⟨by unfold s8S; rw [f]; rfl, by unfold s8E; rw [f]; rfl⟩
theorem nought32 (W : World) (g : Nat) (r : Lw.RowB W g 32 (fun _ => 0)) : (Go.convert 27 9 (.slice (some ⟨g, 0, none⟩) 32 32)).run Try.prog W = .ok (.string z32) W := r.text 0 32 32 (by decide)
set_option maxHeartbeats 2000000 in
set_option maxRecDepth 20000 in
theorem awake8_any (w : World) : Calls Try.prog 7 #[] w fun e w' => e = .returned (.bool true) ∧ Below w.heap.size w w' := by
  obtain ⟨M, hM, hMc, hmk0⟩ := Lw.zeros 32 (by decide)
  have hmk : ∀ W : World, (Instr.makeSlice 27 (.int .i64 32) (.int .i64 32)).run Try.prog W = .ok (.slice (some ⟨W.heap.size, 0, none⟩) 32 32) (W.alloc (.cells M 5)) := hmk0
  have hcv := nought32 _ _ (Lw.rowB_new w M 32 hM hMc)
  clear hmk0 hM hMc
  go_enter Try.func7, Try.ntmps7
  go_upto_region 1 with (fail)
  apply wp_region_lit
  refine wpList_val rfl (.slice (some ⟨w.heap.size, 0, none⟩) 32 32) (w.alloc (.cells M 5)) (by go_simp) ?_
  refine wpList_val rfl (.string z32) (w.alloc (.cells M 5)) (by go_simp) ?_
  simp only [Act.put, List.setIfInBounds_toArray, List.set_cons_zero, List.set_cons_succ]
  have HB : Hid (Below w.heap.size w (w.alloc (.cells M 5))) := (Below.refl _ _).alloc (Nat.le_refl _) _
  generalize w.alloc (.cells M 5) = w1 at HB
  clear hmk hcv
  have hz : z32.size = 32 := by decide
  have hx : z32.extract 0 12 = z12 := by decide +kernel
  have hs : c19.size = 19 := by decide
  have k0 : Hid (∀ w, Calls Try.prog 8 #[.int .i64 4866] w fun e w' => e = .returned (.tuple #[.int .i64 32, .int .i64 384, .int .i64 0]) ∧ Below w.heap.size w w') := fun w => Ed.sizes_any 4866 w
  have k1 : Hid (∀ w, Calls Try.prog 10 #[.int .i64 4867, .string z32, .string z12, .string ⟨#[]⟩, .string ⟨#[97, 98, 99]⟩] w fun e w' => e = .returned (.tuple #[.string c19, .int .i64 0]) ∧ Below w.heap.size w w') := fun w => by
    have h := Ed.seal_any 4867 z32 z12 ⟨#[]⟩ abcS w
    rw [seal8_abc.1, seal8_abc.2] at h
    exact h
  have k2 : Hid (∀ (w : World) (g c1 c2 : Nat) (X : Nat → Nat), 2 ≤ c1 → 17 ≤ c2 → Seg w g 0 19 X → pieceS X 0 19 = c19 → Calls Try.prog 12 #[.int .i64 4867, .string z32, .string z12, .string ⟨#[]⟩, .slice (some ⟨g, 0, none⟩) 2 c1, .slice (some ⟨g, 2, none⟩) 17 c2] w fun e w' => e = .returned (.tuple #[.int .i64 3, .int .i64 0]) ∧ Pd.But g w w' ∧ ∃ Y, Seg w' g 0 19 Y ∧ pieceS Y 0 19 = abcS ++ c19.extract 3 19) := fun w g c1 c2 X q1 q2 hS hX => by
    have h := Ed.openIn_any 4867 z32 z12 ⟨#[]⟩ g 0 2 17 19 c1 c2 _ _ X w hS (.inr rfl) (.inr rfl) rfl (by decide) q1 q2
    rw [hX, open8_abc.1, open8_abc.2.1, open8_abc.2.2] at h
    exact h
  have k3 : Hid (∀ (w : World) (g c1 c2 : Nat) (X : Nat → Nat), 7 ≤ c1 → 12 ≤ c2 → Seg w g 0 19 X → pieceS X 0 19 = abcS ++ c19.extract 3 19 → Calls Try.prog 9 #[.int .i64 4867, .string z32, .string z12, .string ⟨#[]⟩, .slice (some ⟨g, 0, none⟩) 7 c1, .slice (some ⟨g, 7, none⟩) 12 c2] w fun e w' => e = .returned (.int .i64 0) ∧ Pd.But g w w' ∧ ∃ Y, Seg w' g 0 19 Y ∧ pieceS Y 0 19 = c19) := fun w g c1 c2 X q1 q2 hS hX => by
    have h := Ed.sealIn_any 4867 z32 z12 ⟨#[]⟩ g 0 7 12 19 c1 c2 _ _ X w hS (.inr rfl) (.inr rfl) rfl (by decide) q1 q2
    rw [hX, in8_abc.1, in8_abc.2] at h
    exact h
  obtain ⟨Z6, e6⟩ : ∃ Z, z32.extract 0 16 = Z := ⟨_, rfl⟩
  have k4 : Hid (∀ w, Calls Try.prog 15 #[.int .i64 4865, .string Z6, .string z12, .string ⟨#[]⟩, .string c19] w fun e w' => e = .returned (.tuple #[.string ⟨#[]⟩, .int .i64 801]) ∧ Below w.heap.size w w') := fun w => by
    have h := Ed.open_any 4865 (z32.extract 0 16) z12 ⟨#[]⟩ c19 w (by decide)
    rw [open8_no.1, open8_no.2, e6] at h
    exact h
  have k5 : Hid (∀ w, Calls Try.prog 10 #[.int .i64 7, .string ⟨#[]⟩, .string ⟨#[]⟩, .string ⟨#[]⟩, .string ⟨#[]⟩] w fun e w' => e = .returned (.tuple #[.string ⟨#[]⟩, .int .i64 800]) ∧ Below w.heap.size w w') := fun w => by
    have h := Ed.seal_any 7 ⟨#[]⟩ ⟨#[]⟩ ⟨#[]⟩ ⟨#[]⟩ w
    rw [seal8_no.1, seal8_no.2] at h
    exact h
  generalize abcS ++ c19.extract 3 19 = V at k2 k3
  have hbr := fun W => bytes_run W c19
  rw [hs] at hbr
  have HSg := Lib.hid (fun W => bytes_seg W c19)
  rw [hs] at HSg
  have HPb : Hid (pieceS (Aes.byt c19) 0 19 = c19) := piece_byt c19
  have HWb := Lib.hid (fun W => bytes_below W c19)
  generalize Aes.byt c19 = Xb at HSg HPb
  generalize c19 = S at k1 k2 k3 k4 hs hbr HSg HPb HWb
  generalize z32 = Z at *
  generalize z12 = N at *
  go_wp2_with (go_at_call 8; fail)
  refine (k0.out _).mono ?_
  rintro e u0 ⟨rfl, hb⟩
  have HB := Lib.hid (Lw.go_on HB.out hb)
  clear hb
  go_wp2_with (go_at_call 10; fail)
  refine (k1.out _).mono ?_
  rintro e u1 ⟨rfl, hb⟩
  have HB := Lib.hid (Lw.go_on HB.out hb)
  clear hb
  have hcap := grownCap_ge u1 19 0 5
  go_upto_region 7 with (fail)
  clear hbr
  have HSe := Lib.hid (HSg.out u1)
  have HBe : Hid (Below w.heap.size w (bytesW u1 S)) := Lw.go_on HB.out (HWb.out u1)
  have HG : Hid (w.heap.size ≤ u1.heap.size) := HB.out.size
  clear HSg HWb HB
  generalize bytesW u1 S = v0 at HSe HBe ⊢
  generalize u1.heap.size = g at HSe HG ⊢
  generalize grownCap u1 19 0 5 = C at hcap ⊢
  have hc2 : (2 : Int) ≤ (C : Int) := by omega
  have hc7 : (7 : Int) ≤ (C : Int) := by omega
  have hc19 : (19 : Int) ≤ (C : Int) := by omega
  have hn2 : (C = 2) = False := eq_false (by omega)
  have hn7 : (C = 7) = False := eq_false (by omega)
  have hSd := HSe.out.drew
  have HBd : Hid (Below w.heap.size w v0.drew) := HBe.out.drew
  go_region_held3 (fun _ => True) (trivial)
    (first | (go_at_call 12; refine (k2.out _ _ _ _ _ (by omega) (by omega) hSd HPb.out).mono ?_; rintro e u2 ⟨rfl, hbut, Y, hY, hYt⟩))
  have HB := Lib.hid (hbut.below HBd.out HG.out HBd.out.size)
  have HSe := Lib.hid hY
  have HPb := Lib.hid hYt
  clear hbut hY hYt HBd HBe hSd
  go_upto_region 8 with (fail)
  have hSd := HSe.out.drew
  have HBd : Hid (Below w.heap.size w u2.drew) := HB.out.drew
  go_region_held3 (fun _ => True) (trivial)
    (first | (go_at_call 9; refine (k3.out _ _ _ _ _ (by omega) (by omega) hSd HPb.out).mono ?_; rintro e u3 ⟨rfl, hbut, Y2, hY, hYt⟩))
  have HB := Lib.hid (hbut.below HBd.out HG.out HBd.out.size)
  have HSe := Lib.hid hY
  have HPb := Lib.hid hYt
  clear hbut hY hYt HBd hSd
  go_upto_region 9 with (fail)
  have HBd : Hid (Below w.heap.size w u3.drew) := HB.out.drew
  have hSd := HSe.out.drew
  go_region_held3 (fun _ => True) (trivial)
    (first | (go_at_call 15; refine (k4.out _).mono ?_; rintro e u4 ⟨rfl, hb⟩))
  have HB := Lib.hid (Lw.go_on HBd.out hb)
  have hS4 := hSd.on hb
  clear hb HBd HSe hSd
  go_wp2_with (go_at_call 10; fail)
  refine (k5.out _).mono ?_
  rintro e u5 ⟨rfl, hb⟩
  have HB := Lib.hid (Lw.go_on HB.out hb)
  have hS5 := hS4.on hb
  have hct := hS5.text C
  rw [HPb.out] at hct
  clear hb hS4 hS5
  go_wp2_with (go_at_call 11; refine (num_same _ _).mono ?_; rintro e u5 ⟨rfl, rfl⟩)
  go_ret
  exact ⟨rfl, HB.out⟩
end Go.Proofs.Ew
