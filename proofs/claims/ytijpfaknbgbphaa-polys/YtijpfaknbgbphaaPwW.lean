/-
  The developers' poly: small forms for the laws, and what halberdlaw7's awake answers.
-/
import Derived.Test.YtijpfaknbgbphaaPsY
import Derived.Test.YtijpfaknbgbphaaPolK
import Derived.Deep.DeepCutAuto
namespace Go.Proofs.Pw
open Go.RowKit
open Go.Proofs.Cha (z32 z12)
open Go.Proofs.Pol
open Go.Proofs.Ps (mac_any seal_any open_any)
open Go.Proofs.Lw (num_same wpList_val)
theorem nought32 (W : World) (g : Nat) (r : Lw.RowB W g 32 (fun _ => 0)) : (Go.convert 32 9 (.slice (some ⟨g, 0, none⟩) 32 32)).run Try.prog W = .ok (.string z32) W := r.text 0 32 32 (by decide)
theorem mac_fine (K s : ByteArray) (w : World) (hk : K.size = 32) (hs : s.size ≤ 140737488355328) :
    Calls Try.prog 8 #[.string K, .string s] w fun e w' => e = .returned (.tuple #[.string (macS K s), .int .i64 0]) ∧ Below w.heap.size w w' := by
  have h := mac_any K s w hs
  rw [show plS K s = macS K s by unfold plS; rw [decide_eq_true hk]; rfl, show plE K = 0 by unfold plE; rw [decide_eq_true hk]; rfl] at h
  exact h
theorem mac_none (K s : ByteArray) (w : World) (hk : ¬ K.size = 32) (hs : s.size ≤ 140737488355328) :
    Calls Try.prog 8 #[.string K, .string s] w fun e w' => e = .returned (.tuple #[.string ⟨#[]⟩, .int .i64 700]) ∧ Below w.heap.size w w' := by
  have h := mac_any K s w hs
  rw [show plS K s = ⟨#[]⟩ by unfold plS; rw [decide_eq_false hk]; rfl, show plE K = 700 by unfold plE; rw [decide_eq_false hk]; rfl] at h
  exact h
theorem poly_fine (K s : ByteArray) (w : World) (hk : K.size = 32) (hs : s.size ≤ 140737488355328) :
    Calls Try.prog 9 #[.string K, .string s] w fun e w' => e = .returned (.tuple #[.string (macS K s), .int .i64 0]) ∧ Below w.heap.size w w' := by
  have h := rpoly_any K s w hs
  rw [show plS K s = macS K s by unfold plS; rw [decide_eq_true hk]; rfl, show plE K = 0 by unfold plE; rw [decide_eq_true hk]; rfl] at h
  exact h
theorem seal_of (K N A s : ByteArray) (hk : K.size = 32) (hn : N.size = 12) (ha : A.size ≤ 65536) (hs : s.size ≤ 65536) : sealOk K N A s = true := (sealOk_iff K N A s).2 ⟨⟨hk, hn, ha⟩, hs⟩
theorem seal_fine (K N A s : ByteArray) (w : World) (hk : K.size = 32) (hn : N.size = 12) (ha : A.size ≤ 65536) (hs : s.size ≤ 65536) :
    Calls Try.prog 10 #[.string K, .string N, .string A, .string s] w fun e w' => e = .returned (.tuple #[.string (sealT K N A s), .int .i64 0]) ∧ Below w.heap.size w w' := by
  have h := seal_any K N A s w
  have ok := seal_of K N A s hk hn ha hs
  rw [show psS K N A s = sealT K N A s by unfold psS; rw [ok]; rfl, show psE K N A s = 0 by unfold psE; rw [ok]; rfl] at h
  exact h
theorem open_fine (K N A s : ByteArray) (w : World) (hk : K.size = 32) (hn : N.size = 12) (ha : A.size ≤ 65536) (hs : s.size ≤ 65536) :
    Calls Try.prog 12 #[.string K, .string N, .string A, .string (sealT K N A s)] w fun e w' => e = .returned (.tuple #[.string s, .int .i64 0]) ∧ Below w.heap.size w w' := by
  have h := open_any K N A (sealT K N A s) w
  have ok := open_seal K N A s (seal_of K N A s hk hn ha hs)
  rw [ok.1, ok.2] at h
  exact h
theorem open_b (w : World) : Calls Try.prog 12 #[.string z32, .string z12, .string bT, .string (sealT z32 z12 aT helloS)] w fun e w' => e = .returned (.tuple #[.string ⟨#[]⟩, .int .i64 700]) ∧ Below w.heap.size w w' := by
  have h := open_any z32 z12 bT (sealT z32 z12 aT helloS) w
  rw [show poS z32 z12 bT (sealT z32 z12 aT helloS) = ⟨#[]⟩ by unfold poS; rw [open_other]; rfl, show poE z32 z12 bT (sealT z32 z12 aT helloS) = 700 by unfold poE; rw [open_other]; rfl] at h
  exact h
set_option maxHeartbeats 2000000 in
theorem awake7_any (w : World) : Calls Try.prog 15 #[] w fun e w' => e = .returned (.bool true) ∧ Below w.heap.size w w' := by
  obtain ⟨M, hM, hMc, hmk0⟩ := Lw.zeros 32 (by decide)
  have hmk : ∀ W : World, (Instr.makeSlice 32 (.int .i64 32) (.int .i64 32)).run Try.prog W = .ok (.slice (some ⟨W.heap.size, 0, none⟩) 32 32) (W.alloc (.cells M 5)) := hmk0
  have hcv := nought32 _ _ (Lw.rowB_new w M 32 hM hMc)
  clear hmk0 hM hMc
  go_enter Try.func15, Try.ntmps15
  go_upto_region 1 with (fail)
  apply wp_region_lit
  refine wpList_val rfl (.slice (some ⟨w.heap.size, 0, none⟩) 32 32) (w.alloc (.cells M 5)) (by go_simp) ?_
  refine wpList_val rfl (.string z32) (w.alloc (.cells M 5)) (by go_simp) ?_
  simp only [Act.put, List.setIfInBounds_toArray, List.set_cons_zero, List.set_cons_succ]
  have HB : Hid (Below w.heap.size w (w.alloc (.cells M 5))) := (Below.refl _ _).alloc (Nat.le_refl _) _
  generalize w.alloc (.cells M 5) = w1 at HB
  clear hmk hcv
  have hz : z32.size = 32 := by decide
  have hx : z32.extract 0 12 = z12 := by decide +kernel
  have hs : (sealT z32 z12 aT helloS).size = 21 := sealT_size _ _ _ _
  obtain ⟨T, hT⟩ : ∃ T, z32.extract 0 16 = T := ⟨_, rfl⟩
  have k1 : Hid (∀ w, Calls Try.prog 8 #[.string z32, .string ⟨#[97, 98, 99]⟩] w fun e w' => e = .returned (.tuple #[.string T, .int .i64 0]) ∧ Below w.heap.size w w') := fun w => by
    have h := mac_fine z32 abcS w (by decide) (by decide)
    rw [mac_abc, hT] at h
    exact h
  have k2 : Hid (∀ w, Calls Try.prog 10 #[.string z32, .string z12, .string ⟨#[97]⟩, .string ⟨#[104, 101, 108, 108, 111]⟩] w fun e w' => e = .returned (.tuple #[.string (sealT z32 z12 aT helloS), .int .i64 0]) ∧ Below w.heap.size w w') := fun w => seal_fine z32 z12 aT helloS w (by decide) (by decide) (by decide) (by decide)
  have k3 : Hid (∀ w, Calls Try.prog 12 #[.string z32, .string z12, .string ⟨#[97]⟩, .string (sealT z32 z12 aT helloS)] w fun e w' => e = .returned (.tuple #[.string ⟨#[104, 101, 108, 108, 111]⟩, .int .i64 0]) ∧ Below w.heap.size w w') := fun w => open_fine z32 z12 aT helloS w (by decide) (by decide) (by decide) (by decide)
  have k4 : Hid (∀ w, Calls Try.prog 12 #[.string z32, .string z12, .string ⟨#[98]⟩, .string (sealT z32 z12 aT helloS)] w fun e w' => e = .returned (.tuple #[.string ⟨#[]⟩, .int .i64 700]) ∧ Below w.heap.size w w') := fun w => open_b w
  have k5 : Hid (∀ w, Calls Try.prog 8 #[.string ⟨#[107]⟩, .string ⟨#[]⟩] w fun e w' => e = .returned (.tuple #[.string ⟨#[]⟩, .int .i64 700]) ∧ Below w.heap.size w w') := fun w => mac_none ⟨#[107]⟩ ⟨#[]⟩ w (by decide) (by decide)
  generalize sealT z32 z12 aT helloS = S at k2 k3 k4 hs
  generalize z32 = Z at *
  generalize z12 = N at *
  go_wp2_with (go_at_call 8; fail)
  refine (k1.out _).mono ?_
  rintro e u1 ⟨rfl, hb⟩
  have HB := Lib.hid (Lw.go_on HB.out hb)
  clear hb
  go_wp2_with (go_at_call 10; fail)
  refine (k2.out _).mono ?_
  rintro e u2 ⟨rfl, hb⟩
  have HB := Lib.hid (Lw.go_on HB.out hb)
  clear hb
  go_wp2_with (go_at_call 12; fail)
  refine (k3.out _).mono ?_
  rintro e u3 ⟨rfl, hb⟩
  have HB := Lib.hid (Lw.go_on HB.out hb)
  clear hb
  go_wp2_with (go_at_call 12; fail)
  refine (k4.out _).mono ?_
  rintro e u4 ⟨rfl, hb⟩
  have HB := Lib.hid (Lw.go_on HB.out hb)
  clear hb
  go_wp2_with (go_at_call 8; fail)
  refine (k5.out _).mono ?_
  rintro e u5 ⟨rfl, hb⟩
  have HB := Lib.hid (Lw.go_on HB.out hb)
  clear hb k1 k2 k3 k4 k5
  go_wp2_with (go_at_call 14; refine (num_same _ _).mono ?_; rintro e u ⟨rfl, rfl⟩)
  go_ret
  exact ⟨rfl, HB.out⟩
end Go.Proofs.Pw
