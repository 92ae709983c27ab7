/-
  ChaCha20: which calls have a form, and what they answer. Of no program.
-/
import Derived.Test.YtijpfaknbgbphaaChaE
namespace Go.Proofs.Cha
/-- P6.1's form; P6.2's. -/
def chaOk (key : ByteArray) (cnt : Int) (nonce : ByteArray) : Bool := decide (key.size = 32) && (decide (0 ≤ cnt) && (decide (cnt ≤ 4294967295) && decide (nonce.size = 12)))
def xorOk (key : ByteArray) (cnt : Int) (nonce s : ByteArray) : Bool := chaOk key cnt nonce && decide (s.size ≤ 65536)
def blkS (key : ByteArray) (cnt : Int) (nonce : ByteArray) : ByteArray := bif chaOk key cnt nonce then chaS key cnt.toNat nonce else ⟨#[]⟩
def blkE (key : ByteArray) (cnt : Int) (nonce : ByteArray) : Int := bif chaOk key cnt nonce then 0 else 600
def xorS (key : ByteArray) (cnt : Int) (nonce s : ByteArray) : ByteArray := bif xorOk key cnt nonce s then strS key cnt.toNat nonce s else ⟨#[]⟩
def xorE (key : ByteArray) (cnt : Int) (nonce s : ByteArray) : Int := bif xorOk key cnt nonce s then 0 else 600
theorem chaOk_iff (key : ByteArray) (cnt : Int) (nonce : ByteArray) : chaOk key cnt nonce = true ↔ key.size = 32 ∧ 0 ≤ cnt ∧ cnt ≤ 4294967295 ∧ nonce.size = 12 := by unfold chaOk; simp
theorem xorOk_iff (key : ByteArray) (cnt : Int) (nonce s : ByteArray) : xorOk key cnt nonce s = true ↔ (key.size = 32 ∧ 0 ≤ cnt ∧ cnt ≤ 4294967295 ∧ nonce.size = 12) ∧ s.size ≤ 65536 := by unfold xorOk; rw [Bool.and_eq_true, chaOk_iff]; simp
end Go.Proofs.Cha
