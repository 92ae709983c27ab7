/-
  The developers' aes.Block in layer 5's laws: a block of a fine form.
-/
import Derived.Test.YtfjodabkfjfcbaaGcW
import Derived.Test.YtfjodabkfjfcbaaAeK
namespace Go.Proofs.Gs
open Go.RowKit Go.Proofs.Gcm
open Go.Proofs.Aes (aesS aesE aesOk encS encS_size)
theorem block_fine (K S : ByteArray) (w : World) (h : K.size = 16 ∨ K.size = 32) (hs : S.size = 16) :
    Calls Try.prog 17 #[.string K, .string S] w fun e w' => e = .returned (.tuple #[.string (encS K S), .int .i64 0]) ∧ Below w.heap.size w w' := by
  have ok : aesOk K S = true := by
    unfold aesOk
    rcases h with h | h <;> simp [h, hs]
  have hb := Ae.block_any K S w
  rw [show aesS K S = encS K S by unfold aesS; rw [ok]; rfl, show aesE K S = 0 by unfold aesE; rw [ok]; rfl] at hb
  exact hb
end Go.Proofs.Gs
