/-
  What halberdlaw5's awake answers.
-/
import Derived.Test.YtfjodabkfjfcbaaGsX
import Derived.Test.YtfjodabkfjfcbaaGcmQ
import Derived.Test.YtfjodabkfjfcbaaLwA
import Derived.Deep.DeepCutAuto
namespace Go.Proofs.Gs
open Go.RowKit Go.Proofs.Gcm
open Go.Proofs.Lw (num_same wpList_val)
theorem nought16 (W : World) (g : Nat) (r : Lw.RowB W g 16 (fun _ => 0)) : (Go.convert 32 9 (.slice (some ⟨g, 0, none⟩) 16 16)).run Try.prog W = .ok (.string z16) W := r.text 0 16 16 (by decide)
theorem seal0 (w : World) : Calls Try.prog 9 #[.string z16, .string z12, .string ⟨#[]⟩, .string ⟨#[]⟩] w fun e w' => e = .returned (.tuple #[.string t0, .int .i64 0]) ∧ Below w.heap.size w w' := by
  have h := seal_any z16 z12 ⟨#[]⟩ ⟨#[]⟩ w
  have ok := gcm_ok (ok_none ⟨#[]⟩ ⟨#[]⟩ (by decide) 0 (by decide))
  rw [ok.1, ok.2, seal_none] at h
  exact h
theorem sealNo (w : World) : Calls Try.prog 9 #[.string ⟨#[]⟩, .string ⟨#[]⟩, .string ⟨#[]⟩, .string ⟨#[]⟩] w fun e w' => e = .returned (.tuple #[.string ⟨#[]⟩, .int .i64 500]) ∧ Below w.heap.size w w' := by
  have h := seal_any ⟨#[]⟩ ⟨#[]⟩ ⟨#[]⟩ ⟨#[]⟩ w
  have no := gcm_no (key := ⟨#[]⟩) (nonce := ⟨#[]⟩) (aad := ⟨#[]⟩) (s := ⟨#[]⟩) (by decide)
  rw [no.1, no.2] at h
  exact h
theorem open0 (w : World) : Calls Try.prog 11 #[.string z16, .string z12, .string ⟨#[]⟩, .string t0] w fun e w' => e = .returned (.tuple #[.string ⟨#[]⟩, .int .i64 0]) ∧ Below w.heap.size w w' := by
  have h := open_any z16 z12 ⟨#[]⟩ t0 w
  rw [open_none.1, open_none.2] at h
  exact h
theorem openX (w : World) : Calls Try.prog 11 #[.string z16, .string z12, .string ⟨#[120]⟩, .string t0] w fun e w' => (∃ s, e = .returned (.tuple #[.string s, .int .i64 501])) ∧ Below w.heap.size w w' := by
  have h := open_any z16 z12 ⟨#[120]⟩ t0 w
  rw [open_x] at h
  exact h.mono fun _ _ ⟨h1, h2⟩ => ⟨⟨_, h1⟩, h2⟩
theorem hash0 (w : World) : Calls Try.prog 13 #[.string z16, .string z16] w fun e w' => e = .returned (.tuple #[.string z16, .int .i64 0]) ∧ Below w.heap.size w w' := by
  have h := hash_any z16 z16 w (by decide)
  have ok := hash_ok (h := z16) (s := z16) (by decide) (by decide)
  rw [ok.1, ok.2, ghS_zero] at h
  exact h
/-- A seal whose form is fine. -/
theorem seal_fine (K N A S : ByteArray) (w : World) (hk : K.size = 16 ∨ K.size = 32) (hn : N.size = 12) (ha : A.size ≤ 65536) (hs : S.size ≤ 65536) :
    Calls Try.prog 9 #[.string K, .string N, .string A, .string S] w fun e w' => e = .returned (.tuple #[.string (sealS K N A S), .int .i64 0]) ∧ Below w.heap.size w w' := by
  have h := seal_any K N A S w
  have ok := gcm_ok (gcmOk_of (more := 0) hk hn ha hs)
  rw [ok.1, ok.2] at h
  exact h
theorem byt_take (s : ByteArray) (k i : Nat) (h : i < k) : Aes.byt (s.extract 0 k) i = Aes.byt s i := by
  have := byt_extract s 0 k i h
  rwa [Nat.zero_add, Nat.zero_add] at this
theorem take_size (s : ByteArray) (k : Nat) (h : k ≤ s.size) : (s.extract 0 k).size = k := by rw [ByteArray.size_extract]; omega
/-- Four bytes laid out as a slice, and the text that they are. -/
theorem four_text (W : World) (k : Nat) (hk : k < 256) :
    (Go.convert 32 9 (.slice (some ⟨W.heap.size, 0, none⟩) 4 4)).run Try.prog (W.alloc (.cells #[.int .u8 0, .int .u8 0, .int .u8 0, .int .u8 (k : Nat)] 5)) = .ok (.string (Be.beS k 4)) (W.alloc (.cells #[.int .u8 0, .int .u8 0, .int .u8 0, .int .u8 (k : Nat)] 5)) := by
  rw [run_convert_bytes_arg (P := Try.prog) _ 32 5 Try.underlying32 Try.underlying5 W.heap.size 0 4 4 [0, 0, 0, (k : Int)] rfl (fun i hi => by
    rw [Nat.zero_add, World.cell?_alloc_at _ _ _ _ rfl]
    match i, hi with
    | 0, _ => rfl
    | 1, _ => rfl
    | 2, _ => rfl
    | 3, _ => rfl) 9 Try.underlying9]
  rw [beS_small k (by omega), show k / 256 = 0 by omega, show k % 256 = k by omega]
  rfl
theorem beS4_size (k : Nat) (hk : k < 256) : (Be.beS k 4).size = 4 := by rw [beS_small k (by omega)]; rfl
set_option maxHeartbeats 2000000 in
theorem awake5_any (w : World) : Calls Try.prog 16 #[] w fun e w' => e = .returned (.bool true) ∧ Below w.heap.size w w' := by
  obtain ⟨M, hM, hMc, hmk0⟩ := Lw.zeros 16 (by decide)
  have hmk : ∀ W : World, (Instr.makeSlice 32 (.int .i64 16) (.int .i64 16)).run Try.prog W = .ok (.slice (some ⟨W.heap.size, 0, none⟩) 16 16) (W.alloc (.cells M 5)) := hmk0
  have hcv := nought16 _ _ (Lw.rowB_new w M 16 hM hMc)
  clear hmk0 hM hMc
  go_enter Try.func16, Try.ntmps16
  go_upto_region 1 with (fail)
  apply wp_region_lit
  refine wpList_val rfl (.slice (some ⟨w.heap.size, 0, none⟩) 16 16) (w.alloc (.cells M 5)) (by go_simp) ?_
  refine wpList_val rfl (.string z16) (w.alloc (.cells M 5)) (by go_simp) ?_
  simp only [Act.put, List.setIfInBounds_toArray, List.set_cons_zero, List.set_cons_succ]
  have HB : Hid (Below w.heap.size w (w.alloc (.cells M 5))) := (Below.refl _ _).alloc (Nat.le_refl _) _
  generalize w.alloc (.cells M 5) = w1 at HB
  clear hmk hcv
  have hz : z16.size = 16 := by decide
  have hx : z16.extract 0 12 = z12 := by decide +kernel
  have ht : t0.size = 16 := by decide
  have hta : ∀ h : 0 < t0.size, (t0[0]'h).toNat = 88 := fun _ => rfl
  have htb : ∀ h : 1 < t0.size, (t0[1]'h).toNat = 226 := fun _ => rfl
  have k1 := Lib.hid fun w => seal0 w
  have k2 := Lib.hid fun w => open0 w
  have k3 := Lib.hid fun w => openX w
  have k4 := Lib.hid fun w => hash0 w
  generalize z16 = Z at hz hx k1 k2 k3 k4 ⊢
  generalize z12 = N at hx k1 k2 k3
  generalize t0 = T at ht hta htb k1 k2 k3
  go_wp2_with (fail)
  refine (k1.out _).mono ?_
  rintro e u1 ⟨rfl, hb⟩
  have HB := Lib.hid (Lw.go_on HB.out hb)
  clear hb
  go_wp2_with (fail)
  refine (k2.out _).mono ?_
  rintro e u2 ⟨rfl, hb⟩
  have HB := Lib.hid (Lw.go_on HB.out hb)
  clear hb
  go_wp2_with (fail)
  refine (k3.out _).mono ?_
  rintro e u3 ⟨⟨s3, rfl⟩, hb⟩
  have HB := Lib.hid (Lw.go_on HB.out hb)
  clear hb
  go_wp2_with (fail)
  refine (sealNo _).mono ?_
  rintro e u4 ⟨rfl, hb⟩
  have HB := Lib.hid (Lw.go_on HB.out hb)
  clear hb
  go_wp2_with (fail)
  refine (k4.out _).mono ?_
  rintro e u5 ⟨rfl, hb⟩
  have HB := Lib.hid (Lw.go_on HB.out hb)
  clear hb
  go_wp2_with (go_at_call 15; refine (num_same _ _).mono ?_; rintro e u ⟨rfl, rfl⟩)
  go_ret
  exact ⟨rfl, HB.out⟩
end Go.Proofs.Gs
