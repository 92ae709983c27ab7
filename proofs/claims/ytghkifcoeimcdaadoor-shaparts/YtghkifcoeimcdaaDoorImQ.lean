/-
  What every program answers that is one (the laws' own awake), of the developers' sha.
-/
import Derived.Test.YtghkifcoeimcdaaDoorImP
import Derived.Test.YtghkifcoeimcdaaDoorShaE
namespace Go.Proofs.Im
open Go.RowKit Go.Proofs.Sha Go.Proofs.Be
set_option maxHeartbeats 400000 in
theorem num_same (z : Int) (w : World) : Calls Tryd.prog 11 #[.int .i64 z] w fun e w' => e = .returned (.int .i64 z) ∧ w' = w := by
  go_enter Tryd.func11, Tryd.ntmps11
  go_wp2
  go_ret
  exact ⟨rfl, rfl⟩
def sAbc : ByteArray := ⟨#[97, 98, 99]⟩
def dAbc : ByteArray := ⟨#[186, 120, 22, 191, 143, 1, 207, 234, 65, 65, 64, 222, 93, 174, 34, 35, 176, 3, 97, 163, 150, 23, 122, 156, 180, 16, 255, 97, 242, 0, 21, 173]⟩
theorem abc_join : (⟨#[]⟩ : ByteArray) ++ ⟨#[97]⟩ ++ ⟨#[98, 99]⟩ = ⟨#[97, 98, 99]⟩ := by rfl
theorem tab_of {w u : World} (h : Tab w) (hb : Below w.heap.size w u) : Tab u := h.below hb h.pos
theorem digS256 (s : ByteArray) : digS 256 s = dig256 s := rfl
theorem digS384 (s : ByteArray) : digS 384 s = Sha5.dig384 s := rfl
/-- A call that leaves all that was there. -/
theorem go_on {w u v : World} (h : Below w.heap.size w u) (hb : Below u.heap.size u v) : Below w.heap.size w v := h.trans (hb.mono h.size)
theorem go_but {w u v : World} {g : Nat} (h : Below w.heap.size w u) (hg : w.heap.size ≤ g) (hb : But g u v) : Below w.heap.size w v := hb.below h hg h.size
theorem newK2 (wide : Bool) (w : World) :
    Calls Tryd.prog 13 #[.int .i64 (bitsK wide)] w fun e w' => ∃ g, e = .returned (.tuple #[.pointer (some ⟨g, 0, none⟩), .int .i64 0]) ∧ Hid (w.heap.size ≤ g) ∧ Below w.heap.size w w' ∧ Hid (Wrote w' g wide ⟨#[]⟩) :=
  (newK wide w).mono fun _ _ ⟨g, h1, h2, h3, h4⟩ => ⟨g, h2, h1, h3, h4⟩
set_option maxHeartbeats 2000000 in
set_option maxRecDepth 10000 in
theorem awake_any (w : World) (hT : Tab w) : Calls Tryd.prog 12 #[] w fun e w' => e = .returned (.bool true) ∧ Below w.heap.size w w' := by
  have HT := Lib.hid hT
  clear hT
  have HB : Hid (Below w.heap.size w w) := Below.refl _ _
  have e1 : digS 256 ⟨#[97, 98, 99]⟩ = ⟨#[186, 120, 22, 191, 143, 1, 207, 234, 65, 65, 64, 222, 93, 174, 34, 35, 176, 3, 97, 163, 150, 23, 122, 156, 180, 16, 255, 97, 242, 0, 21, 173]⟩ := dig256_abc
  have e2 : digS 384 ⟨#[]⟩ = ⟨#[56, 176, 96, 167, 81, 172, 150, 56, 76, 217, 50, 126, 177, 177, 227, 106, 33, 253, 183, 17, 20, 190, 7, 67, 76, 12, 199, 191, 99, 246, 225, 218, 39, 78, 222, 191, 231, 111, 101, 251, 213, 26, 210, 241, 72, 152, 185, 91]⟩ := dig384_empty
  have e3 : digE 256 = 0 := rfl
  have e4 : digE 384 = 0 := rfl
  have e5 : digE 512 = 200 := rfl
  go_enter Tryd.func12, Tryd.ntmps12
  go_wp2_with (first
    | (go_at_call 9; refine (sum_any _ _ _ (HT.out.below HB.out HT.out.pos) (by decide)).mono ?_; rintro e u ⟨rfl, hb⟩; have HB := Lib.hid (go_on HB.out hb); clear hb)
    | (go_at_call 13; refine (newK2 false _).mono ?_; rintro e u4 ⟨g, rfl, hg, hb4, HW⟩; have hg := Lib.hid (Nat.le_trans HB.out.size hg.out); have HB := Lib.hid (go_on HB.out hb4); clear hb4)
    | (go_at_call 11; refine (num_same _ _).mono ?_; rintro e u ⟨rfl, rfl⟩)
    | (go_at_call 15; refine (write_any false g _ _ _ HW.out (Nat.lt_of_lt_of_le HT.out.pos hg.out) (HT.out.below HB.out HT.out.pos) (by decide)).mono ?_; rintro e v ⟨rfl, hBv, hV⟩; have HB := Lib.hid (go_but HB.out hg.out hBv); have HW := Lib.hid hV; clear hBv hV)
    | (go_at_call 16; refine (hsum_any false g _ _ HW.out (HT.out.below HB.out HT.out.pos) (by decide)).mono ?_; rw [abc_join, show digS (bitsK false) ⟨#[97, 98, 99]⟩ = _ from e1]; rintro e x ⟨rfl, hbx⟩; have HB := Lib.hid (go_on HB.out hbx); clear hbx))
  go_ret
  exact ⟨rfl, HB.out⟩
end Go.Proofs.Im
