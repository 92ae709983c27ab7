/-
  The developers' aes: Block at every input; what halberdlaw4's awake answers.
-/
import Derived.Test.YtfjodabkfjfcbaaAeI
import Derived.Test.YtfjodabkfjfcbaaAeJ
import Derived.Test.YtfjodabkfjfcbaaAesE
namespace Go.Proofs.Ae
open Go.RowKit
open Go.Proofs.Aes
theorem ciphK (w : World) (g n r N : Nat) (key : ByteArray) (hN : N = 4 * (r + 1)) (h : Ciph w g (kS n key N) r) : CiphK w g r (exS n key (N - n)) :=
  ⟨_, h, kS_lt n key N, fun i hi => kS_in n key N i (by omega), exS_lt n key (N - n)⟩
set_option maxHeartbeats 1000000 in
theorem block_16 (key s : ByteArray) (w : World) (hk : key.size = 16) (hs : s.size = 16) :
    Calls Try.prog 17 #[.string key, .string s] w fun e w' => e = .returned (.tuple #[.string (encS key s), .int .i64 0]) ∧ Below w.heap.size w w' := by
  rw [encS_16 key s hk]
  have HK := Lib.hid hk
  have HS := Lib.hid hs
  go_enter Try.func17, Try.ntmps17
  go_wp2_with (first
    | (go_at_call 30; refine (keyed_16 key _ HK.out).mono ?_; rintro e u ⟨g, rfl, _, hb, hC⟩; have HB := Lib.hid hb; have HC := Lib.hid (ciphK u g 4 10 44 key rfl hC); clear hb hC)
    | (go_at_call 31; refine (encrypt_any (exS 4 key 40) g 9 s _ HC.out (by decide) HS.out).mono ?_; rintro e v ⟨rfl, hv⟩))
  go_ret2
  exact ⟨rfl, HB.out.trans (hv.mono HB.out.size)⟩
set_option maxHeartbeats 1000000 in
theorem block_32 (key s : ByteArray) (w : World) (hk : key.size = 32) (hs : s.size = 16) :
    Calls Try.prog 17 #[.string key, .string s] w fun e w' => e = .returned (.tuple #[.string (encS key s), .int .i64 0]) ∧ Below w.heap.size w w' := by
  rw [encS_32 key s hk]
  have HK := Lib.hid hk
  have HS := Lib.hid hs
  go_enter Try.func17, Try.ntmps17
  go_wp2_with (first
    | (go_at_call 30; refine (keyed_32 key _ HK.out).mono ?_; rintro e u ⟨g, rfl, _, hb, hC⟩; have HB := Lib.hid hb; have HC := Lib.hid (ciphK u g 8 14 60 key rfl hC); clear hb hC)
    | (go_at_call 31; refine (encrypt_any (exS 8 key 52) g 13 s _ HC.out (by decide) HS.out).mono ?_; rintro e v ⟨rfl, hv⟩))
  go_ret2
  exact ⟨rfl, HB.out.trans (hv.mono HB.out.size)⟩
set_option maxHeartbeats 1000000 in
theorem block_key (key s : ByteArray) (w : World) (h : ¬ key.size = 16) (h' : ¬ key.size = 32) :
    Calls Try.prog 17 #[.string key, .string s] w fun e w' => e = .returned (.tuple #[.string ⟨#[]⟩, .int .i64 400]) ∧ Below w.heap.size w w' := by
  have e1 : ((key.size : Int) == 16) = false := by simp; omega
  have e2 : ((key.size : Int) == 32) = false := by simp; omega
  have n1 : ((key.size : Int) != 16) = true := by simp; omega
  have n2 : ((key.size : Int) != 32) = true := by simp; omega
  clear h h'
  go_enter Try.func17, Try.ntmps17
  go_wp2_with (fail)
  go_ret2
  exact ⟨rfl, Below.refl _ _⟩
set_option maxHeartbeats 1000000 in
theorem block_s (key s : ByteArray) (w : World) (h : ¬ s.size = 16) :
    Calls Try.prog 17 #[.string key, .string s] w fun e w' => e = .returned (.tuple #[.string ⟨#[]⟩, .int .i64 400]) ∧ Below w.heap.size w w' := by
  have e1 : ((s.size : Int) == 16) = false := by simp; omega
  have n1 : ((s.size : Int) != 16) = true := by simp; omega
  by_cases h1 : key.size = 16
  · clear h
    go_enter Try.func17, Try.ntmps17
    go_wp2_with (fail)
    go_ret2
    exact ⟨rfl, Below.refl _ _⟩
  · by_cases h2 : key.size = 32
    · clear h h1
      go_enter Try.func17, Try.ntmps17
      go_wp2_with (fail)
      go_ret2
      exact ⟨rfl, Below.refl _ _⟩
    · exact block_key key s w h1 h2
theorem block_any (key s : ByteArray) (w : World) :
    Calls Try.prog 17 #[.string key, .string s] w fun e w' => e = .returned (.tuple #[.string (aesS key s), .int .i64 (aesE key s)]) ∧ Below w.heap.size w w' := by
  by_cases hs : s.size = 16
  · by_cases h1 : key.size = 16
    · have ok : aesOk key s = true := by simp [aesOk, h1, hs]
      rw [show aesS key s = encS key s by unfold aesS; rw [ok]; rfl, show aesE key s = 0 by unfold aesE; rw [ok]; rfl]
      exact block_16 key s w h1 hs
    · by_cases h2 : key.size = 32
      · have ok : aesOk key s = true := by simp [aesOk, h2, hs]
        rw [show aesS key s = encS key s by unfold aesS; rw [ok]; rfl, show aesE key s = 0 by unfold aesE; rw [ok]; rfl]
        exact block_32 key s w h2 hs
      · have ok : aesOk key s = false := by simp [aesOk, h1, h2]
        rw [show aesS key s = ⟨#[]⟩ by unfold aesS; rw [ok]; rfl, show aesE key s = 400 by unfold aesE; rw [ok]; rfl]
        exact block_key key s w h1 h2
  · have ok : aesOk key s = false := by simp [aesOk, hs]
    rw [show aesS key s = ⟨#[]⟩ by unfold aesS; rw [ok]; rfl, show aesE key s = 400 by unfold aesE; rw [ok]; rfl]
    exact block_s key s w hs
end Go.Proofs.Ae
