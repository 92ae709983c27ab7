/-
  The document's own answer: Block of AES at every input.
-/
import Derived.Test.YtphkjaopblanbaaAesC
namespace Go.Proofs.Aes
open Go.RowKit
set_option maxHeartbeats 1000000 in
theorem rblock_16 (key s : ByteArray) (w : World) (hk : key.size = 16) (hs : s.size = 16) :
    Calls Try.prog 7 #[.string key, .string s] w fun e w' => e = .returned (.tuple #[.string (encS key s), .int .i64 0]) ∧ Below w.heap.size w w' := by
  rw [encS_16 key s hk]
  have HK := Lib.hid hk
  have HS := Lib.hid hs
  go_enter Try.func7, Try.ntmps7
  go_wp2_with (fail)
  refine (sched_16 key _ HK.out).mono ?_
  rintro e u ⟨g, cap, rfl, _, hgu, hb, hKs⟩
  have HB := Lib.hid hb
  have HG := Lib.hid hgu
  have HKs := Lib.hid hKs
  clear hb hgu hKs
  go_wp2_with (fail)
  refine (cipher_any (exS 4 key 40) g 44 cap 10 s _ rfl (by decide) (by decide) HS.out HG.out HKs.out (exS_lt 4 key 40)).mono ?_
  rintro e v ⟨rfl, hv⟩
  go_wp2_with (fail)
  go_ret2
  exact ⟨rfl, HB.out.trans (hv.mono HB.out.size)⟩
set_option maxHeartbeats 1000000 in
theorem rblock_32 (key s : ByteArray) (w : World) (hk : key.size = 32) (hs : s.size = 16) :
    Calls Try.prog 7 #[.string key, .string s] w fun e w' => e = .returned (.tuple #[.string (encS key s), .int .i64 0]) ∧ Below w.heap.size w w' := by
  rw [encS_32 key s hk]
  have HK := Lib.hid hk
  have HS := Lib.hid hs
  go_enter Try.func7, Try.ntmps7
  go_wp2_with (fail)
  refine (sched_32 key _ HK.out).mono ?_
  rintro e u ⟨g, cap, rfl, _, hgu, hb, hKs⟩
  have HB := Lib.hid hb
  have HG := Lib.hid hgu
  have HKs := Lib.hid hKs
  clear hb hgu hKs
  go_wp2_with (fail)
  refine (cipher_any (exS 8 key 52) g 60 cap 14 s _ rfl (by decide) (by decide) HS.out HG.out HKs.out (exS_lt 8 key 52)).mono ?_
  rintro e v ⟨rfl, hv⟩
  go_wp2_with (fail)
  go_ret2
  exact ⟨rfl, HB.out.trans (hv.mono HB.out.size)⟩
set_option maxHeartbeats 1000000 in
theorem rblock_key (key s : ByteArray) (w : World) (h : ¬ key.size = 16) (h' : ¬ key.size = 32) :
    Calls Try.prog 7 #[.string key, .string s] w fun e w' => e = .returned (.tuple #[.string ⟨#[]⟩, .int .i64 400]) ∧ Below w.heap.size w w' := by
  have e1 : ((key.size : Int) == 16) = false := by simp; omega
  have e2 : ((key.size : Int) == 32) = false := by simp; omega
  have n1 : ((key.size : Int) != 16) = true := by simp; omega
  have n2 : ((key.size : Int) != 32) = true := by simp; omega
  clear h h'
  go_enter Try.func7, Try.ntmps7
  go_wp2_with (fail)
  go_ret2
  exact ⟨rfl, Below.refl _ _⟩
set_option maxHeartbeats 1000000 in
theorem rblock_s (key s : ByteArray) (w : World) (h : ¬ s.size = 16) :
    Calls Try.prog 7 #[.string key, .string s] w fun e w' => e = .returned (.tuple #[.string ⟨#[]⟩, .int .i64 400]) ∧ Below w.heap.size w w' := by
  have e1 : ((s.size : Int) == 16) = false := by simp; omega
  have n1 : ((s.size : Int) != 16) = true := by simp; omega
  by_cases h1 : key.size = 16
  · clear h
    go_enter Try.func7, Try.ntmps7
    go_wp2_with (fail)
    go_ret2
    exact ⟨rfl, Below.refl _ _⟩
  · by_cases h2 : key.size = 32
    · clear h h1
      go_enter Try.func7, Try.ntmps7
      go_wp2_with (fail)
      go_ret2
      exact ⟨rfl, Below.refl _ _⟩
    · exact rblock_key key s w h1 h2
theorem rblock_any (key s : ByteArray) (w : World) :
    Calls Try.prog 7 #[.string key, .string s] w fun e w' => e = .returned (.tuple #[.string (aesS key s), .int .i64 (aesE key s)]) ∧ Below w.heap.size w w' := by
  by_cases hs : s.size = 16
  · by_cases h1 : key.size = 16
    · have ok : aesOk key s = true := by simp [aesOk, h1, hs]
      rw [show aesS key s = encS key s by unfold aesS; rw [ok]; rfl, show aesE key s = 0 by unfold aesE; rw [ok]; rfl]
      exact rblock_16 key s w h1 hs
    · by_cases h2 : key.size = 32
      · have ok : aesOk key s = true := by simp [aesOk, h2, hs]
        rw [show aesS key s = encS key s by unfold aesS; rw [ok]; rfl, show aesE key s = 0 by unfold aesE; rw [ok]; rfl]
        exact rblock_32 key s w h2 hs
      · have ok : aesOk key s = false := by simp [aesOk, h1, h2]
        rw [show aesS key s = ⟨#[]⟩ by unfold aesS; rw [ok]; rfl, show aesE key s = 400 by unfold aesE; rw [ok]; rfl]
        exact rblock_key key s w h1 h2
  · have ok : aesOk key s = false := by simp [aesOk, hs]
    rw [show aesS key s = ⟨#[]⟩ by unfold aesS; rw [ok]; rfl, show aesE key s = 400 by unfold aesE; rw [ok]; rfl]
    exact rblock_s key s w hs
end Go.Proofs.Aes
