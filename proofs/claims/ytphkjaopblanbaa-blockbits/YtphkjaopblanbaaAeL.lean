/-
  What halberdlaw4's awake answers; small forms for the laws' walks.
-/
import Derived.Test.YtphkjaopblanbaaAeK
import Derived.Test.YtphkjaopblanbaaAesD
namespace Go.Proofs.Ae
open Go.RowKit
open Go.Proofs.Aes
open Go.Proofs.Sha (rowIs_of)
theorem num_same (z : Int) (w : World) : Calls Try.prog 8 #[.int .i64 z] w fun e w' => e = .returned (.int .i64 z) ∧ w' = w := by
  go_enter Try.func8, Try.ntmps8
  go_wp2
  go_ret
  exact ⟨rfl, rfl⟩
theorem go_on {w u v : World} (h : Below w.heap.size w u) (hb : Below u.heap.size u v) : Below w.heap.size w v := h.trans (hb.mono h.size)
theorem aes_16 : aesS k16 p16 = c16 ∧ aesE k16 p16 = 0 := by
  have ok : aesOk k16 p16 = true := by decide +kernel
  unfold aesS aesE; rw [ok]; exact ⟨enc_16, rfl⟩
theorem aes_32 : aesS k32 p16 = c32 ∧ aesE k32 p16 = 0 := by
  have ok : aesOk k32 p16 = true := by decide +kernel
  unfold aesS aesE; rw [ok]; exact ⟨enc_32, rfl⟩
theorem known_16 (w : World) : Calls Try.prog 6 #[.string ⟨#[0, 1, 2, 3, 4, 5, 6, 7, 8, 9, 10, 11, 12, 13, 14, 15]⟩, .string ⟨#[0, 17, 34, 51, 68, 85, 102, 119, 136, 153, 170, 187, 204, 221, 238, 255]⟩] w
    fun e w' => e = .returned (.tuple #[.string ⟨#[105, 196, 224, 216, 106, 123, 4, 48, 216, 205, 183, 128, 112, 180, 197, 90]⟩, .int .i64 0]) ∧ Below w.heap.size w w' := by
  have h := block_any k16 p16 w
  rw [aes_16.1, aes_16.2] at h
  exact h
theorem known_32 (w : World) : Calls Try.prog 6 #[.string ⟨#[0, 1, 2, 3, 4, 5, 6, 7, 8, 9, 10, 11, 12, 13, 14, 15, 16, 17, 18, 19, 20, 21, 22, 23, 24, 25, 26, 27, 28, 29, 30, 31]⟩, .string ⟨#[0, 17, 34, 51, 68, 85, 102, 119, 136, 153, 170, 187, 204, 221, 238, 255]⟩] w
    fun e w' => e = .returned (.tuple #[.string ⟨#[142, 162, 183, 202, 81, 103, 69, 191, 234, 252, 73, 144, 75, 73, 96, 137]⟩, .int .i64 0]) ∧ Below w.heap.size w w' := by
  have h := block_any k32 p16 w
  rw [aes_32.1, aes_32.2] at h
  exact h
theorem known_no (w : World) : Calls Try.prog 6 #[.string ⟨#[107]⟩, .string ⟨#[]⟩] w fun e w' => e = .returned (.tuple #[.string ⟨#[]⟩, .int .i64 400]) ∧ Below w.heap.size w w' :=
  block_key ⟨#[107]⟩ ⟨#[]⟩ w (by decide) (by decide)
set_option maxHeartbeats 1000000 in
theorem awake4_any (w : World) : Calls Try.prog 9 #[] w fun e w' => e = .returned (.bool true) ∧ Below w.heap.size w w' := by
  go_enter Try.func9, Try.ntmps9
  go_wp2_with (fail)
  refine (known_16 _).mono ?_
  rintro e u1 ⟨rfl, hb1⟩
  have HB1 := Lib.hid hb1
  clear hb1
  go_wp2_with (fail)
  refine (known_no _).mono ?_
  rintro e u2 ⟨rfl, hb2⟩
  have HB2 := Lib.hid (go_on HB1.out hb2)
  clear hb2
  go_wp2_with (go_at_call 8; refine (num_same _ _).mono ?_; rintro e u ⟨rfl, rfl⟩)
  go_ret
  exact ⟨rfl, HB2.out⟩
/-- A Block of any two texts: fine, or none. -/
theorem aes_form (key s : ByteArray) : ((key.size = 16 ∨ key.size = 32) ∧ s.size = 16 ∧ (aesS key s).size = 16 ∧ aesE key s = 0) ∨ (¬ ((key.size = 16 ∨ key.size = 32) ∧ s.size = 16) ∧ aesS key s = ⟨#[]⟩ ∧ aesE key s = 400) := by
  by_cases h : (key.size = 16 ∨ key.size = 32) ∧ s.size = 16
  · have ok : aesOk key s = true := by
      unfold aesOk
      rcases h.1 with h1 | h1 <;> simp [h1, h.2]
    refine Or.inl ⟨h.1, h.2, ?_, ?_⟩
    · unfold aesS; rw [ok]; exact encS_size key s
    · unfold aesE; rw [ok]; rfl
  · have ok : aesOk key s = false := by
      cases hk : aesOk key s with
      | false => rfl
      | true => exact absurd (by simpa [aesOk] using hk) h
    refine Or.inr ⟨h, ?_, ?_⟩
    · unfold aesS; rw [ok]; rfl
    · unfold aesE; rw [ok]; rfl
end Go.Proofs.Ae
