/-
  The document's own answer: Sum and Hash at every number of bits.
-/
import Derived.Test.YtbfkbinkfboklaaDoorShaD
import Derived.Test.YtbfkbinkfboklaaDoorSha5D
namespace Go.Proofs.Sha
open Go.RowKit
/-- Are there digests of so many bits? -/
def may (bits : Int) : Bool := decide (bits = 256 ∨ bits = 384)
def digS (bits : Int) (s : ByteArray) : ByteArray := bif decide (bits = 256) then dig256 s else bif decide (bits = 384) then Sha5.dig384 s else ⟨#[]⟩
def digE (bits : Int) : Int := bif may bits then 0 else 200
set_option maxHeartbeats 400000 in
theorem rsum_none (bits : Int) (s : ByteArray) (w : World) (h : ¬ bits = 256) (h' : ¬ bits = 384) :
    Calls Tryd.prog 27 #[.int .i64 bits, .string s] w fun e w' => e = .returned (.tuple #[.string ⟨#[]⟩, .int .i64 200]) ∧ w = w' := by
  have b1 : (bits == 256) = false := by simpa using h
  have b2 : (bits == 384) = false := by simpa using h'
  go_enter Tryd.func27, Tryd.ntmps27
  go_wp2
  go_ret2
  exact ⟨rfl, rfl⟩
theorem rsum_any (bits : Int) (s : ByteArray) (w : World) (hs : s.size ≤ 288230376151711744) :
    Calls Tryd.prog 27 #[.int .i64 bits, .string s] w fun e w' => e = .returned (.tuple #[.string (digS bits s), .int .i64 (digE bits)]) ∧ Below w.heap.size w w' := by
  by_cases h : bits = 256
  · subst h; exact rsum_256 s w hs
  · by_cases h' : bits = 384
    · subst h'; exact Sha5.rsum_384 s w hs
    · have e1 : digS bits s = ⟨#[]⟩ := by simp [digS, h, h']
      have e2 : digE bits = 200 := by simp [digE, may, h, h']
      rw [e1, e2]
      exact (rsum_none bits s w h h').mono fun _ _ ⟨he, hw⟩ => ⟨he, hw ▸ Below.refl _ _⟩
set_option maxHeartbeats 400000 in
theorem rhash_any (bits : Int) (s : ByteArray) (w : World) (hs : s.size ≤ 288230376151711744) :
    Calls Tryd.prog 17 #[.int .i64 bits, .string s] w fun e w' => e = .returned (.string (digS bits s)) ∧ Below w.heap.size w w' := by
  go_enter Tryd.func17, Tryd.ntmps17
  go_wp2_with (go_at_call 27; refine (rsum_any bits s _ hs).mono ?_; rintro e u ⟨rfl, hb⟩)
  go_ret
  exact ⟨rfl, hb⟩
end Go.Proofs.Sha
