/-
  The developers' aes: a column's substitutes.
-/
import Derived.Test.YtfjodabkfjfcbaaAeC
namespace Go.Proofs.Ae
open Go.RowKit
open Go.Proofs.Aes
set_option maxHeartbeats 2000000 in
theorem column_any (x y z t : Nat) (g : Nat) (K : Nat → Nat) (n : Nat) (w : World) (h : Ciph w g K n) (_hx : x < 4294967296) (_hy : y < 4294967296) (_hz : z < 4294967296) (_ht : t < 4294967296) :
    Calls Try.prog 47 #[.pointer (some ⟨g, 0, none⟩), .int .u32 x, .int .u32 y, .int .u32 z, .int .u32 t] w fun e w' => e = .returned (.int .u32 (colN x y z t : Nat)) ∧ ∃ n, w' = w.drewN n := by
  have l0 := Nat.mod_lt (x / 16777216) (show 256 > 0 by decide)
  have l1 := Nat.mod_lt (y / 65536) (show 256 > 0 by decide)
  have l2 := Nat.mod_lt (z / 256) (show 256 > 0 by decide)
  have l3 := Nat.mod_lt t (show 256 > 0 by decide)
  have e0 : IntKind.u8.wrap ((x : Int) / 16777216) = ((x / 16777216 % 256 : Nat) : Int) := by show _ % 256 = _; omega
  have e1 : IntKind.u8.wrap ((y : Int) / 65536) = ((y / 65536 % 256 : Nat) : Int) := by show _ % 256 = _; omega
  have e2 : IntKind.u8.wrap ((z : Int) / 256) = ((z / 256 % 256 : Nat) : Int) := by show _ % 256 = _; omega
  have e3 : IntKind.u8.wrap (t : Int) = ((t % 256 : Nat) : Int) := by show _ % 256 = _; omega
  have HC : Hid (colN x y z t = pk (bx (x / 16777216 % 256)) (bx (y / 65536 % 256)) (bx (z / 256 % 256)) (bx (t % 256))) := rfl
  generalize x / 16777216 % 256 = a at *
  generalize y / 65536 % 256 = b at *
  generalize z / 256 % 256 = c at *
  generalize t % 256 = d at *
  have c0 := h.tab a l0
  have c1 := h.tab b l1
  have c2 := h.tab c l2
  have c3 := h.tab d l3
  have b0 := bx_lt a l0
  have b1 := bx_lt b l1
  have b2 := bx_lt c l2
  have b3 := bx_lt d l3
  rw [HC.out]
  generalize bx a = p at *
  generalize bx b = q at *
  generalize bx c = r at *
  generalize bx d = s at *
  have HJ := Lib.hid (join_bits p q r s b0 b1 b2 b3)
  clear h HC
  go_enter Try.func47, Try.ntmps47
  go_wp2
  go_quiet (fail)
  go_wp2
  go_ret
  exact ⟨retI HJ.out, nq, rfl⟩
end Go.Proofs.Ae
