/-
  What every program answers that is one (layer 3's awake), of the developers' hkdf.
-/
import Derived.Test.YtbfkbinkfboklaaDoorKdF
import Derived.Test.YtbfkbinkfboklaaDoorHkE
namespace Go.Proofs.Kd
open Go.RowKit Go.Proofs.Be Go.Proofs.Sha Go.Proofs.Hk Go.Proofs.Im
theorem hmac_jefe (w : World) (hT : Tab w) :
    Calls Tryd.prog 8 #[.int .i64 256, .string jefe, .string want] w fun e w' => e = .returned (.tuple #[.string jefeS, .int .i64 0]) ∧ Below w.heap.size w w' := by
  rw [← mac_jefe]; exact hmac_ok false jefe want w hT (by decide) (by decide)
def ExpTo (w : World) (n : Nat) (e : Ending) (w' : World) : Prop := ∃ s : ByteArray, e = .returned (.tuple #[.string s, .int .i64 0]) ∧ s.size = n ∧ Below w.heap.size w w'
theorem expand_to (w : World) (hT : Tab w) : Calls Tryd.prog 11 #[.int .i64 256, .string jefeS, .string ⟨#[105]⟩, .int .i64 40] w (ExpTo w 40) :=
  (expandK false 40 jefeS ⟨#[105]⟩ w hT (by decide) (by decide)).mono fun _ _ ⟨h1, h2⟩ => ⟨_, h1, expS_size 256 jefeS ⟨#[105]⟩ 40 rfl, h2⟩
theorem label_to (w : World) (hT : Tab w) : Calls Tryd.prog 13 #[.int .i64 384, .string ⟨#[107]⟩, .string ⟨#[120]⟩, .string ⟨#[]⟩, .int .i64 10] w (ExpTo w 10) :=
  (label_ok 384 10 ⟨#[107]⟩ ⟨#[120]⟩ ⟨#[]⟩ w hT (by decide) (by decide) (by decide) (by decide)).mono fun _ _ ⟨h1, h2⟩ => ⟨_, h1, expS_size 384 _ _ 10 rfl, h2⟩
set_option maxHeartbeats 2000000 in
set_option maxRecDepth 10000 in
theorem awake3_any (w : World) (hT : Tab w) : Calls Tryd.prog 16 #[] w fun e w' => e = .returned (.bool true) ∧ Below w.heap.size w w' := by
  have HT := Lib.hid hT
  clear hT
  go_enter Tryd.func16, Tryd.ntmps16
  go_wp2_with (fail)
  refine (hmac_jefe _ HT.out).mono ?_
  rintro e u1 ⟨rfl, hb1⟩
  have HB1 := Lib.hid hb1
  clear hb1
  go_wp2_with (fail)
  refine (expand_to _ (tab_of HT.out HB1.out)).mono ?_
  rintro e u2 ⟨B, rfl, hB, hb2⟩
  have HB2 := Lib.hid (go_on HB1.out hb2)
  clear hb2
  go_wp2_with (fail)
  refine (hmac_none 0 ⟨#[]⟩ ⟨#[]⟩ _ (by decide) (by decide)).mono ?_
  rintro e u3 ⟨rfl, hb3⟩
  have HB3 := Lib.hid (go_on HB2.out hb3)
  clear hb3
  go_wp2_with (fail)
  refine (label_to _ (tab_of HT.out HB3.out)).mono ?_
  rintro e u4 ⟨C, rfl, hC, hb4⟩
  have HB4 := Lib.hid (go_on HB3.out hb4)
  clear hb4
  have hj : jefeS = ⟨#[91, 220, 193, 70, 191, 96, 117, 78, 106, 4, 36, 38, 8, 149, 117, 199, 90, 0, 63, 8, 157, 39, 57, 131, 157, 236, 88, 185, 100, 236, 56, 67]⟩ := rfl
  rw [hj]
  clear hj
  go_wp2_with (go_at_call 15; refine (num_same _ _).mono ?_; rintro e u ⟨rfl, rfl⟩)
  go_ret
  exact ⟨rfl, HB4.out⟩
end Go.Proofs.Kd
