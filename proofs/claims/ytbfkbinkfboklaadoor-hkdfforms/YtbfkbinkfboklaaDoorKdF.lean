/-
  The developers' hkdf: Expand in one sentence, labelInfo, Label at every input.
-/
import Derived.Test.YtbfkbinkfboklaaDoorKdE
import Derived.Test.YtbfkbinkfboklaaDoorWireP
namespace Go.Proofs.Kd
open Go.RowKit Go.Proofs.Be Go.Proofs.Sha Go.Proofs.Hk Go.Proofs.Im
theorem mayE_bitsK (wide : Bool) (z : Int) : mayE (bitsK wide) z = (decide (0 ≤ z) && decide (z ≤ 255 * (dK wide : Int))) := by
  cases wide
  · show (true && (decide (0 ≤ z) && decide (z ≤ 8160))) = (decide (0 ≤ z) && decide (z ≤ 8160)); simp
  · show (true && (decide (0 ≤ z) && decide (z ≤ 12240))) = (decide (0 ≤ z) && decide (z ≤ 12240)); simp
theorem expandK (wide : Bool) (z : Int) (key info : ByteArray) (w : World) (hT : Tab w) (hk : key.size ≤ 288230376151711744) (hi : info.size ≤ 72057594037927936) :
    Calls Tryd.prog 11 #[.int .i64 (bitsK wide), .string key, .string info, .int .i64 z] w fun e w' => e = .returned (.tuple #[.string (expS (bitsK wide) key info z), .int .i64 (expE (bitsK wide) z)]) ∧ Below w.heap.size w w' := by
  cases hm : mayE (bitsK wide) z
  · rw [show expS (bitsK wide) key info z = ⟨#[]⟩ by unfold expS; rw [hm]; rfl, show expE (bitsK wide) z = 300 by unfold expE; rw [hm]; rfl]
    rw [mayE_bitsK] at hm
    by_cases h1 : z < 0
    · exact expand_neg wide z key info w hT hk h1
    · refine expand_great wide z key info w hT hk ?_
      simp at hm; omega
  · rw [show expS (bitsK wide) key info z = (outS (bitsK wide) key info (upTo (dK wide) z.toNat)).extract 0 z.toNat by unfold expS; rw [hm, dK_eq]; rfl, show expE (bitsK wide) z = 0 by unfold expE; rw [hm]; rfl]
    rw [mayE_bitsK] at hm
    simp at hm
    obtain ⟨n, rfl⟩ := Int.eq_ofNat_of_zero_le hm.1
    exact expand_ok wide n key info w hT hk hi (by omega)
theorem expand_any (bits z : Int) (key info : ByteArray) (w : World) (hT : Tab w) (hk : key.size ≤ 288230376151711744) (hi : info.size ≤ 72057594037927936) :
    Calls Tryd.prog 11 #[.int .i64 bits, .string key, .string info, .int .i64 z] w fun e w' => e = .returned (.tuple #[.string (expS bits key info z), .int .i64 (expE bits z)]) ∧ Below w.heap.size w w' := by
  by_cases h : bits = 256
  · subst h; exact expandK false z key info w hT hk hi
  · by_cases h' : bits = 384
    · subst h'; exact expandK true z key info w hT hk hi
    · have hm : mayE bits z = false := by unfold mayE; rw [may_no h h']; rfl
      rw [show expS bits key info z = ⟨#[]⟩ by unfold expS; rw [hm]; rfl, show expE bits z = 300 by unfold expE; rw [hm]; rfl]
      exact expand_none bits z key info w h h'
theorem beL_same (x k : Nat) : Wire.beL x k = Be.beL x k := by
  induction k generalizing x with
  | zero => rfl
  | succ k ih => show Wire.beL (x / 256) k ++ _ = Be.beL (x / 256) k ++ _; rw [ih]
theorem beS_same (x k : Nat) : Wire.beS x k = Be.beS x k := by unfold Wire.beS Be.beS; rw [beL_same]
theorem put2 (z : Nat) (w : World) (hz : z ≤ 65535) :
    Calls Tryd.prog 34 #[.int .i64 z, .int .i64 2] w fun e w' => e = .returned (.tuple #[.string (Be.beS z 2), .int .i64 0]) ∧ Below w.heap.size w w' := by
  rw [← beS_same]; exact Wire.put_2 z w (by omega)
theorem put2_no (z : Int) (w : World) (hz : z < 0 ∨ 65535 < z) :
    Calls Tryd.prog 34 #[.int .i64 z, .int .i64 2] w fun e w' => e = .returned (.tuple #[.string ⟨#[]⟩, .int .i64 101]) ∧ w = w' :=
  Wire.put_no z 2 w (by simp [Wire.fitsB]; omega)
theorem vec1 (s : ByteArray) (w : World) (hs : s.size ≤ 255) :
    Calls Tryd.prog 35 #[.string s, .int .i64 1] w fun e w' => e = .returned (.tuple #[.string (vS s 1), .int .i64 0]) ∧ Below w.heap.size w w' := by
  unfold vS; rw [← beS_same]; exact Wire.putVec_yes s 1 w (by simp [Wire.lenB]; omega)
theorem vec1_no (s : ByteArray) (w : World) (hs : 255 < s.size) :
    Calls Tryd.prog 35 #[.string s, .int .i64 1] w fun e w' => e = .returned (.tuple #[.string ⟨#[]⟩, .int .i64 101]) ∧ w = w' :=
  Wire.putVec_no s 1 w (by simp [Wire.lenB]; omega)
theorem tls13_size (s : ByteArray) : (tls13 ++ s).size = 6 + s.size := by rw [ByteArray.size_append]; rfl
set_option maxHeartbeats 1000000 in
theorem info_z (label context : ByteArray) (z : Int) (w : World) (hz : z < 0 ∨ 65535 < z) :
    Calls Tryd.prog 24 #[.string label, .string context, .int .i64 z] w fun e w' => e = .returned (.tuple #[.string ⟨#[]⟩, .int .i64 300]) ∧ Below w.heap.size w w' := by
  have HZ := Lib.hid hz
  clear hz
  go_enter Tryd.func24, Tryd.ntmps24
  go_wp2_with (fail)
  refine (put2_no z _ HZ.out).mono ?_
  rintro e u ⟨rfl, rfl⟩
  go_wp2_with (fail)
  go_ret2
  exact ⟨rfl, Below.refl _ _⟩
set_option maxHeartbeats 1000000 in
theorem info_l (label context : ByteArray) (z : Nat) (w : World) (hz : z ≤ 65535) (hl : 249 < label.size) (hl2 : label.size ≤ 288230376151711744) :
    Calls Tryd.prog 24 #[.string label, .string context, .int .i64 z] w fun e w' => e = .returned (.tuple #[.string ⟨#[]⟩, .int .i64 300]) ∧ Below w.heap.size w w' := by
  have HZ := Lib.hid hz
  have HL : Hid (255 < (tls13 ++ label).size) := by show 255 < (tls13 ++ label).size; rw [tls13_size]; omega
  have l2 : label.size ≤ 9000000000000000000 := by omega
  clear hz hl hl2
  go_enter Tryd.func24, Tryd.ntmps24
  go_wp2_with (fail)
  refine (put2 z _ HZ.out).mono ?_
  rintro e u ⟨rfl, hb⟩
  have HB := Lib.hid hb
  clear hb
  go_wp2_with (fail)
  refine (vec1_no (tls13 ++ label) _ HL.out).mono ?_
  rintro e x ⟨rfl, rfl⟩
  go_wp2_with (fail)
  go_ret2
  exact ⟨rfl, HB.out⟩
set_option maxHeartbeats 1000000 in
theorem info_c (label context : ByteArray) (z : Nat) (w : World) (hz : z ≤ 65535) (hl : label.size ≤ 249) (hc : 255 < context.size) :
    Calls Tryd.prog 24 #[.string label, .string context, .int .i64 z] w fun e w' => e = .returned (.tuple #[.string ⟨#[]⟩, .int .i64 300]) ∧ Below w.heap.size w w' := by
  have HZ := Lib.hid hz
  have HL : Hid ((tls13 ++ label).size ≤ 255) := by show (tls13 ++ label).size ≤ 255; rw [tls13_size]; omega
  have HC := Lib.hid hc
  clear hz hc
  go_enter Tryd.func24, Tryd.ntmps24
  go_wp2_with (fail)
  refine (put2 z _ HZ.out).mono ?_
  rintro e u ⟨rfl, hb⟩
  have HB := Lib.hid hb
  clear hb
  go_wp2_with (fail)
  refine (vec1 (tls13 ++ label) _ HL.out).mono ?_
  rintro e x ⟨rfl, hbx⟩
  have HB2 := Lib.hid (go_on HB.out hbx)
  clear hbx
  go_wp2_with (fail)
  refine (vec1_no context _ HC.out).mono ?_
  rintro e y ⟨rfl, rfl⟩
  go_wp2_with (fail)
  go_ret2
  exact ⟨rfl, HB2.out⟩
set_option maxHeartbeats 1000000 in
theorem info_ok (label context : ByteArray) (z : Nat) (w : World) (hz : z ≤ 65535) (hl : label.size ≤ 249) (hc : context.size ≤ 255) :
    Calls Tryd.prog 24 #[.string label, .string context, .int .i64 z] w fun e w' => e = .returned (.tuple #[.string (infoS label context z), .int .i64 0]) ∧ Below w.heap.size w w' := by
  have HZ := Lib.hid hz
  have HL : Hid ((tls13 ++ label).size ≤ 255) := by show (tls13 ++ label).size ≤ 255; rw [tls13_size]; omega
  have HC := Lib.hid hc
  have y1 := beS_size z 2
  have y2 : (vS (tls13 ++ label) 1).size = 7 + label.size := by rw [vS_size, tls13_size]; omega
  have y3 := vS_size context 1
  clear hz
  unfold infoS
  go_enter Tryd.func24, Tryd.ntmps24
  go_wp2_with (fail)
  refine (put2 z _ HZ.out).mono ?_
  rintro e u ⟨rfl, hb⟩
  have HB := Lib.hid hb
  clear hb
  go_wp2_with (fail)
  refine (vec1 (tls13 ++ label) _ HL.out).mono ?_
  rintro e x ⟨rfl, hbx⟩
  have HB2 := Lib.hid (go_on HB.out hbx)
  clear hbx
  go_wp2_with (fail)
  refine (vec1 context _ HC.out).mono ?_
  rintro e y ⟨rfl, hby⟩
  have HB3 := Lib.hid (go_on HB2.out hby)
  clear hby
  go_wp2_with (fail)
  go_ret2
  exact ⟨rfl, HB3.out⟩
theorem info_no (label context : ByteArray) (z : Int) (w : World) (hl2 : label.size ≤ 288230376151711744) (hm : mayL label context z = false) :
    Calls Tryd.prog 24 #[.string label, .string context, .int .i64 z] w fun e w' => e = .returned (.tuple #[.string ⟨#[]⟩, .int .i64 300]) ∧ Below w.heap.size w w' := by
  by_cases h1 : z < 0 ∨ 65535 < z
  · exact info_z label context z w h1
  · obtain ⟨n, rfl⟩ := Int.eq_ofNat_of_zero_le (show 0 ≤ z by omega)
    by_cases h2 : 249 < label.size
    · exact info_l label context n w (by omega) h2 hl2
    · refine info_c label context n w (by omega) (by omega) ?_
      simp [mayL] at hm
      omega
set_option maxHeartbeats 1000000 in
theorem label_no (bits z : Int) (key label context : ByteArray) (w : World) (hl : label.size ≤ 288230376151711744) (hm : mayL label context z = false) :
    Calls Tryd.prog 13 #[.int .i64 bits, .string key, .string label, .string context, .int .i64 z] w fun e w' => e = .returned (.tuple #[.string ⟨#[]⟩, .int .i64 300]) ∧ Below w.heap.size w w' := by
  have HL := Lib.hid hl
  have HM := Lib.hid hm
  clear hl hm
  go_enter Tryd.func13, Tryd.ntmps13
  go_wp2_with (fail)
  refine (info_no label context z _ HL.out HM.out).mono ?_
  rintro e u ⟨rfl, hb⟩
  go_wp2_with (fail)
  go_ret2
  exact ⟨rfl, hb⟩
set_option maxHeartbeats 1000000 in
theorem label_ok (bits : Int) (z : Nat) (key label context : ByteArray) (w : World) (hT : Tab w) (hk : key.size ≤ 288230376151711744) (hz : z ≤ 65535) (hl : label.size ≤ 249) (hc : context.size ≤ 255) :
    Calls Tryd.prog 13 #[.int .i64 bits, .string key, .string label, .string context, .int .i64 z] w fun e w' => e = .returned (.tuple #[.string (expS bits key (infoS label context z) z), .int .i64 (expE bits z)]) ∧ Below w.heap.size w w' := by
  have HT := Lib.hid hT
  have HK := Lib.hid hk
  have HL := Lib.hid hl
  have HC := Lib.hid hc
  have HZ := Lib.hid hz
  have HI : Hid ((infoS label context z).size ≤ 72057594037927936) := by show (infoS label context z).size ≤ _; rw [infoS_size]; omega
  clear hT hk hl hc hz
  go_enter Tryd.func13, Tryd.ntmps13
  go_wp2_with (fail)
  refine (info_ok label context z _ HZ.out HL.out HC.out).mono ?_
  rintro e u ⟨rfl, hb⟩
  have HB := Lib.hid hb
  clear hb
  go_wp2_with (fail)
  refine (expand_any bits z key (infoS label context z) _ (tab_of HT.out HB.out) HK.out HI.out).mono ?_
  rintro e v ⟨rfl, hv⟩
  go_wp2_with (fail)
  go_ret2
  exact ⟨rfl, go_on HB.out hv⟩
theorem label_any (bits z : Int) (key label context : ByteArray) (w : World) (hT : Tab w) (hk : key.size ≤ 288230376151711744) (hl : label.size ≤ 288230376151711744) :
    Calls Tryd.prog 13 #[.int .i64 bits, .string key, .string label, .string context, .int .i64 z] w fun e w' => e = .returned (.tuple #[.string (labS bits key label context z), .int .i64 (labE bits label context z)]) ∧ Below w.heap.size w w' := by
  cases hm : mayL label context z
  · rw [show labS bits key label context z = ⟨#[]⟩ by simp [labS, hm], show labE bits label context z = 300 by simp [labE, hm]]
    exact label_no bits z key label context w hl hm
  · rw [show labS bits key label context z = expS bits key (infoS label context z.toNat) z by simp [labS, hm], show labE bits label context z = expE bits z by simp [labE, hm]]
    simp [mayL] at hm
    obtain ⟨n, rfl⟩ := Int.eq_ofNat_of_zero_le hm.2.2.1
    exact label_ok bits n key label context w hT hk (by omega) hm.1 hm.2.1
end Go.Proofs.Kd
