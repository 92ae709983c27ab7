/-
  The document's own answer: ChaCha20-Poly1305, Seal and Open at every input.
-/
import Derived.Test.YtijpfaknbgbphaaPolH
namespace Go.Proofs.Pol
open Go.RowKit
open Go.Proofs.Aes (byt byt_lt get_byt)
open Go.Proofs.Cha (chaS chaS_size strS strS_size chacha_any stream_any)
/-- P7.2's form. -/
def aeOk (key nonce aad : ByteArray) : Bool := decide (key.size = 32) && (decide (nonce.size = 12) && decide (aad.size ≤ 65536))
def sealOk (key nonce aad s : ByteArray) : Bool := aeOk key nonce aad && decide (s.size ≤ 65536)
def sealT (key nonce aad s : ByteArray) : ByteArray := strS key 1 nonce s ++ pTagS key nonce aad (strS key 1 nonce s)
def psS (key nonce aad s : ByteArray) : ByteArray := bif sealOk key nonce aad s then sealT key nonce aad s else ⟨#[]⟩
def psE (key nonce aad s : ByteArray) : Int := bif sealOk key nonce aad s then 0 else 700
/-- Are the last sixteen bytes the tag of those ahead? -/
def pTagOk (key nonce aad s : ByteArray) (k : Nat) : Bool := (pTagS key nonce aad (s.extract 0 k)).toList == (s.extract k (k + 16)).toList
def openOk (key nonce aad s : ByteArray) : Bool := aeOk key nonce aad && ((decide (16 ≤ s.size) && decide (s.size ≤ 65552)) && pTagOk key nonce aad s (s.size - 16))
def poS (key nonce aad s : ByteArray) : ByteArray := bif openOk key nonce aad s then strS key 1 nonce (s.extract 0 (s.size - 16)) else ⟨#[]⟩
def poE (key nonce aad s : ByteArray) : Int := bif openOk key nonce aad s then 0 else 700
theorem aeOk_iff (key nonce aad : ByteArray) : aeOk key nonce aad = true ↔ key.size = 32 ∧ nonce.size = 12 ∧ aad.size ≤ 65536 := by unfold aeOk; simp
theorem sealOk_iff (key nonce aad s : ByteArray) : sealOk key nonce aad s = true ↔ (key.size = 32 ∧ nonce.size = 12 ∧ aad.size ≤ 65536) ∧ s.size ≤ 65536 := by unfold sealOk; rw [Bool.and_eq_true, aeOk_iff, decide_eq_true_iff]
theorem same_iff (a b : ByteArray) : (a.toList == b.toList) = true ↔ a = b := by
  rw [beq_iff_eq, ByteArray.toList_eq, ByteArray.toList_eq]
  exact ⟨fun h => ByteArray.ext (Array.toList_inj.1 h), fun h => by rw [h]⟩
set_option maxHeartbeats 1000000 in
theorem rseal_ok (key nonce aad s : ByteArray) (w : World) (hk : key.size = 32) (hno : nonce.size = 12) (ha : aad.size ≤ 65536) (hs : s.size ≤ 65536) :
    Calls Try.prog 11 #[.string key, .string nonce, .string aad, .string s] w fun e w' => e = .returned (.tuple #[.string (sealT key nonce aad s), .int .i64 0]) ∧ Below w.heap.size w w' := by
  have HC := Lib.hid (fun u => stream_any key 1 nonce s u hk hno (by decide) (by omega))
  have HT := Lib.hid (fun u => polyTag_any key nonce aad (strS key 1 nonce s) u hk hno (by omega) (by rw [strS_size]; omega))
  have z1 := strS_size key 1 nonce s
  have z2 := pTagS_size key nonce aad (strS key 1 nonce s)
  have HE : Hid (strS key 1 nonce s ++ pTagS key nonce aad (strS key 1 nonce s) = sealT key nonce aad s) := rfl
  generalize sealT key nonce aad s = R at HE ⊢
  generalize pTagS key nonce aad (strS key 1 nonce s) = T at HT z2 HE
  generalize strS key 1 nonce s = C at HC HT z1 HE
  obtain ⟨n, hn⟩ : ∃ n, s.size = n := ⟨_, rfl⟩
  have ks : (key.size : Int) = 32 := by omega
  have ns : (nonce.size : Int) = 12 := by omega
  have l1 : ((65536 : Int) < (aad.size : Int)) = False := eq_false (by omega)
  have l2 : ((65536 : Int) < (n : Int)) = False := eq_false (by omega)
  have q1 : ¬ 9223372036854775807 < n + 16 := by omega
  have z1 : C.size = n := by omega
  clear hk hno ha hs
  go_enter Try.func11, Try.ntmps11
  go_wp2_with (first
    | (go_at_call 25; refine (HC.out _).mono ?_; rintro e u1 ⟨rfl, hb1⟩)
    | (go_at_call 26; refine (HT.out _).mono ?_; rintro e u2 ⟨rfl, hb2⟩))
  go_ret2
  exact ⟨by rw [← HE.out]; rfl, Lw.go_on hb1 hb2⟩
set_option maxHeartbeats 1000000 in
theorem rseal_no (key nonce aad s : ByteArray) (w : World) (h : ¬ ((key.size = 32 ∧ nonce.size = 12 ∧ aad.size ≤ 65536) ∧ s.size ≤ 65536)) :
    Calls Try.prog 11 #[.string key, .string nonce, .string aad, .string s] w fun e w' => e = .returned (.tuple #[.string ⟨#[]⟩, .int .i64 700]) ∧ Below w.heap.size w w' := by
  have HH := Lib.hid h
  clear h
  by_cases h1 : key.size = 32
  · have ks : (key.size : Int) = 32 := by omega
    by_cases h2 : nonce.size = 12
    · have ns : (nonce.size : Int) = 12 := by omega
      by_cases h3 : aad.size ≤ 65536
      · have l1 : ((65536 : Int) < (aad.size : Int)) = False := eq_false (by omega)
        have l2 : ((65536 : Int) < (s.size : Int)) = True := eq_true (by have := HH.out; omega)
        clear h1 h2 h3
        go_enter Try.func11, Try.ntmps11
        go_wp2_with (fail)
        go_ret2
        exact ⟨rfl, Below.refl _ _⟩
      · have l1 : ((65536 : Int) < (aad.size : Int)) = True := eq_true (by omega)
        clear h1 h2 h3
        go_enter Try.func11, Try.ntmps11
        go_wp2_with (fail)
        go_ret2
        exact ⟨rfl, Below.refl _ _⟩
    · have ns : ¬ (nonce.size : Int) = 12 := by omega
      clear h1 h2
      go_enter Try.func11, Try.ntmps11
      go_wp2_with (fail)
      go_ret2
      exact ⟨rfl, Below.refl _ _⟩
  · have ks : ¬ (key.size : Int) = 32 := by omega
    clear h1
    go_enter Try.func11, Try.ntmps11
    go_wp2_with (fail)
    go_ret2
    exact ⟨rfl, Below.refl _ _⟩
theorem rseal_any (key nonce aad s : ByteArray) (w : World) :
    Calls Try.prog 11 #[.string key, .string nonce, .string aad, .string s] w fun e w' => e = .returned (.tuple #[.string (psS key nonce aad s), .int .i64 (psE key nonce aad s)]) ∧ Below w.heap.size w w' := by
  by_cases h : sealOk key nonce aad s = true
  · obtain ⟨⟨h1, h2, h3⟩, h4⟩ := (sealOk_iff key nonce aad s).1 h
    rw [show psS key nonce aad s = sealT key nonce aad s by unfold psS; rw [h]; rfl, show psE key nonce aad s = 0 by unfold psE; rw [h]; rfl]
    exact rseal_ok key nonce aad s w h1 h2 h3 h4
  · have h' : sealOk key nonce aad s = false := by simpa using h
    rw [show psS key nonce aad s = ⟨#[]⟩ by unfold psS; rw [h']; rfl, show psE key nonce aad s = 700 by unfold psE; rw [h']; rfl]
    exact rseal_no key nonce aad s w fun c => h ((sealOk_iff key nonce aad s).2 c)
end Go.Proofs.Pol
