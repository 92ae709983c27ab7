/-
  What a seat's laws want of the developers' sha beside its contracts, whatever the layer: Num, what stays behind a call.
-/
import Derived.Test.YtbfkbinkfboklaaDoorImP
namespace Go.Proofs.Im
open Go.RowKit Go.Proofs.Sha Go.Proofs.Be
set_option maxHeartbeats 400000 in
theorem num_same (z : Int) (w : World) : Calls Tryd.prog 15 #[.int .i64 z] w fun e w' => e = .returned (.int .i64 z) ∧ w' = w := by
  go_enter Tryd.func15, Tryd.ntmps15
  go_wp2
  go_ret
  exact ⟨rfl, rfl⟩
theorem tab_of {w u : World} (h : Tab w) (hb : Below w.heap.size w u) : Tab u := h.below hb h.pos
theorem digS256 (s : ByteArray) : digS 256 s = dig256 s := rfl
theorem digS384 (s : ByteArray) : digS 384 s = Sha5.dig384 s := rfl
/-- A call that leaves all that was there. -/
theorem go_on {w u v : World} (h : Below w.heap.size w u) (hb : Below u.heap.size u v) : Below w.heap.size w v := h.trans (hb.mono h.size)
theorem go_but {w u v : World} {g : Nat} (h : Below w.heap.size w u) (hg : w.heap.size ≤ g) (hb : But g u v) : Below w.heap.size w v := hb.below h hg h.size
theorem newK2 (wide : Bool) (w : World) :
    Calls Tryd.prog 28 #[.int .i64 (bitsK wide)] w fun e w' => ∃ g, e = .returned (.tuple #[.pointer (some ⟨g, 0, none⟩), .int .i64 0]) ∧ Hid (w.heap.size ≤ g) ∧ Below w.heap.size w w' ∧ Hid (Wrote w' g wide ⟨#[]⟩) :=
  (newK wide w).mono fun _ _ ⟨g, h1, h2, h3, h4⟩ => ⟨g, h2, h1, h3, h4⟩
end Go.Proofs.Im
