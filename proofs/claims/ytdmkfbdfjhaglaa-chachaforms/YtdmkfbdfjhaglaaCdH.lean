/-
  The developers' chacha: forms that are none.
-/
import Derived.Test.YtdmkfbdfjhaglaaCdG
import Derived.Test.YtdmkfbdfjhaglaaImRb
namespace Go.Proofs.Cd
open Go.RowKit
open Go.Proofs.Cha
theorem xor_long (K : ByteArray) (z : Int) (N s : ByteArray) (w : World) (hs : 65536 < s.size) :
    Calls Try.prog 9 #[.string K, .int .i64 z, .string N, .string s] w fun e w' => e = .returned (.tuple #[.string ⟨#[]⟩, .int .i64 600]) ∧ Below w.heap.size w w' := by
  by_cases h : chaOk K z N = true
  · exact xor_no2 K z N s w h hs
  · exact xor_no1 K z N s w (by simpa using h)
def oneS : ByteArray := ⟨#[97]⟩
theorem form_ok (K : ByteArray) (z : Int) (N : ByteArray) (hk : K.size = 32) (hN : N.size = 12) (h0 : 0 ≤ z) (h1 : z ≤ 4294967295) : blkE K z N = 0 ∧ xorE K z N oneS = 0 := by
  have c := (chaOk_iff K z N).2 ⟨hk, h0, h1, hN⟩
  have x := (xorOk_iff K z N oneS).2 ⟨⟨hk, h0, h1, hN⟩, by decide⟩
  unfold blkE xorE; rw [c, x]; exact ⟨rfl, rfl⟩
theorem form_no (K : ByteArray) (z : Int) (N : ByteArray) (h : ¬ (K.size = 32 ∧ 0 ≤ z ∧ z ≤ 4294967295 ∧ N.size = 12)) : blkE K z N = 600 ∧ xorE K z N oneS = 600 := by
  have c : chaOk K z N = false := Bool.eq_false_iff.2 fun hh => h ((chaOk_iff K z N).1 hh)
  have x : xorOk K z N oneS = false := Bool.eq_false_iff.2 fun hh => h ((xorOk_iff K z N oneS).1 hh).1
  unfold blkE xorE; rw [c, x]; exact ⟨rfl, rfl⟩
end Go.Proofs.Cd
