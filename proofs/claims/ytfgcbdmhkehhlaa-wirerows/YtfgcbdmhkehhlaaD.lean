/-
  Each call of package wire, and the document's own answer, at every input: the same words.
-/
import Derived.Test.YtfgcbdmhkehhlaaR
namespace Go.Proofs.Ytfgcbdmhkehhlaa
open Go.RowKit

def numA (s : ByteArray) (a k : Int) : Int := bif holdsB s.size a k then (numV s a.toNat k.toNat : Nat) else 0
def numT (s : ByteArray) (a k : Int) : Int := bif holdsB s.size a k then a + k else 0
def numE (s : ByteArray) (a k : Int) : Int := bif holdsB s.size a k then 0 else 100
/-- Is there a vector whose length has k bytes at the place a? -/
def vecB (s : ByteArray) (a k : Int) : Bool := holdsB s.size a k && holdsB s.size (a + k) (numV s a.toNat k.toNat : Nat)
def vecL (k : Int) : Bool := decide (1 ≤ k ∧ k ≤ 3)
def vecS (s : ByteArray) (a k : Int) : ByteArray := bif vecL k && vecB s a k then s.extract (a + k).toNat ((a + k).toNat + numV s a.toNat k.toNat) else ⟨#[]⟩
def vecT (s : ByteArray) (a k : Int) : Int := bif vecL k && vecB s a k then a + k + (numV s a.toNat k.toNat : Nat) else 0
def vecE (s : ByteArray) (a k : Int) : Int := bif vecL k then (bif vecB s a k then 0 else 100) else 101
def putS (x k : Int) : ByteArray := bif fitsB x k then beS x.toNat k.toNat else ⟨#[]⟩
def putE (x k : Int) : Int := bif fitsB x k then 0 else 101
def pvS (s : ByteArray) (k : Int) : ByteArray := bif lenB s.size k then beS s.size k.toNat ++ s else ⟨#[]⟩
def pvE (s : ByteArray) (k : Int) : Int := bif lenB s.size k then 0 else 101

theorem u8_any (s : ByteArray) (a : Int) (w : World) (hs : s.size ≤ maxLen) :
    Calls Try.prog 9 #[.string s, .int .i64 a] w fun e w' => e = .returned (.tuple #[.int .i64 (numA s a 1), .int .i64 (numT s a 1), .int .i64 (numE s a 1)]) ∧ w = w' := by
  unfold numA numT numE
  cases h : holdsB s.size a 1
  · exact u8_no s a w hs h
  · exact u8_yes s a w hs h

theorem u16_any (s : ByteArray) (a : Int) (w : World) (hs : s.size ≤ maxLen) :
    Calls Try.prog 10 #[.string s, .int .i64 a] w fun e w' => e = .returned (.tuple #[.int .i64 (numA s a 2), .int .i64 (numT s a 2), .int .i64 (numE s a 2)]) ∧ w = w' := by
  unfold numA numT numE
  cases h : holdsB s.size a 2
  · exact u16_no s a w hs h
  · exact u16_yes s a w hs h

theorem u24_any (s : ByteArray) (a : Int) (w : World) (hs : s.size ≤ maxLen) :
    Calls Try.prog 11 #[.string s, .int .i64 a] w fun e w' => e = .returned (.tuple #[.int .i64 (numA s a 3), .int .i64 (numT s a 3), .int .i64 (numE s a 3)]) ∧ w = w' := by
  unfold numA numT numE
  cases h : holdsB s.size a 3
  · exact u24_no s a w hs h
  · exact u24_yes s a w hs h

theorem u32_any (s : ByteArray) (a : Int) (w : World) (hs : s.size ≤ maxLen) :
    Calls Try.prog 12 #[.string s, .int .i64 a] w fun e w' => e = .returned (.tuple #[.int .i64 (numA s a 4), .int .i64 (numT s a 4), .int .i64 (numE s a 4)]) ∧ w = w' := by
  unfold numA numT numE
  cases h : holdsB s.size a 4
  · exact u32_no s a w hs h
  · exact u32_yes s a w hs h

theorem rnum_any (s : ByteArray) (a k : Int) (w : World) (hs : s.size ≤ maxLen) (h1 : 1 ≤ k) (h4 : k ≤ 4) :
    Calls Try.prog 14 #[.string s, .int .i64 a, .int .i64 k] w fun e w' => e = .returned (.tuple #[.int .i64 (numA s a k), .int .i64 (numT s a k), .int .i64 (numE s a k)]) ∧ w = w' := by
  unfold numA numT numE
  cases h : holdsB s.size a k
  · exact rnum_no s a k w hs h
  · exact rnum_yes s a k w hs h1 h4 h
theorem below_same {e : Ending} {v : Ending} {w w' : World} (h : e = v ∧ w = w') : e = v ∧ Below w.heap.size w w' := ⟨h.1, h.2 ▸ Below.refl _ _⟩
theorem vec_any (s : ByteArray) (a k : Int) (w : World) (hs : s.size ≤ maxLen) :
    Calls Try.prog 13 #[.string s, .int .i64 a, .int .i64 k] w fun e w' => e = .returned (.tuple #[.string (vecS s a k), .int .i64 (vecT s a k), .int .i64 (vecE s a k)]) ∧ Below w.heap.size w w' := by
  unfold vecS vecT vecE
  cases hl : vecL k
  · have : k < 1 ∨ 3 < k := by simp [vecL] at hl; omega
    exact (vec_long s a k w this).mono fun e w' h => below_same h
  · have : 1 ≤ k ∧ k ≤ 3 := by simpa [vecL] using hl
    unfold vecB
    cases h : holdsB s.size a k
    · exact (vec_cut s a k w hs this.1 this.2 h).mono fun e w' h => below_same h
    · cases hb : holdsB s.size (a + k) (numV s a.toNat k.toNat : Nat)
      · exact (vec_short s a k w hs this.1 this.2 h hb).mono fun e w' h => below_same h
      · exact vec_yes s a k w hs this.1 this.2 h hb
theorem rvec_any (s : ByteArray) (a k : Int) (w : World) (hs : s.size ≤ maxLen) :
    Calls Try.prog 15 #[.string s, .int .i64 a, .int .i64 k] w fun e w' => e = .returned (.tuple #[.string (vecS s a k), .int .i64 (vecT s a k), .int .i64 (vecE s a k)]) ∧ w = w' := by
  unfold vecS vecT vecE
  cases hl : vecL k
  · have : k < 1 ∨ 3 < k := by simp [vecL] at hl; omega
    exact rvec_long s a k w this
  · have : 1 ≤ k ∧ k ≤ 3 := by simpa [vecL] using hl
    unfold vecB
    cases h : holdsB s.size a k
    · exact rvec_cut s a k w hs this.1 this.2 h
    · cases hb : holdsB s.size (a + k) (numV s a.toNat k.toNat : Nat)
      · exact rvec_short s a k w hs this.1 this.2 h hb
      · exact rvec_yes s a k w hs this.1 this.2 h hb
theorem put_any (x k : Int) (w : World) :
    Calls Try.prog 18 #[.int .i64 x, .int .i64 k] w fun e w' => e = .returned (.tuple #[.string (putS x k), .int .i64 (putE x k)]) ∧ Below w.heap.size w w' := by
  unfold putS putE
  cases h : fitsB x k
  · exact (put_no x k w h).mono fun e w' h => below_same h
  · exact put_yes x k w h
theorem rput_any (x k : Int) (w : World) :
    Calls Try.prog 19 #[.int .i64 x, .int .i64 k] w fun e w' => e = .returned (.tuple #[.string (putS x k), .int .i64 (putE x k)]) ∧ Below w.heap.size w w' := by
  unfold putS putE
  cases h : fitsB x k
  · exact (rput_no x k w h).mono fun e w' h => below_same h
  · exact rput_yes x k w h
theorem putVec_any (s : ByteArray) (k : Int) (w : World) :
    Calls Try.prog 20 #[.string s, .int .i64 k] w fun e w' => e = .returned (.tuple #[.string (pvS s k), .int .i64 (pvE s k)]) ∧ Below w.heap.size w w' := by
  unfold pvS pvE
  cases h : lenB s.size k
  · exact (putVec_no s k w h).mono fun e w' h => below_same h
  · exact putVec_yes s k w h
theorem rputVec_any (s : ByteArray) (k : Int) (w : World) :
    Calls Try.prog 21 #[.string s, .int .i64 k] w fun e w' => e = .returned (.tuple #[.string (pvS s k), .int .i64 (pvE s k)]) ∧ Below w.heap.size w w' := by
  unfold pvS pvE
  cases h : lenB s.size k
  · exact (rputVec_no s k w h).mono fun e w' h => below_same h
  · exact rputVec_yes s k w h
end Go.Proofs.Ytfgcbdmhkehhlaa
