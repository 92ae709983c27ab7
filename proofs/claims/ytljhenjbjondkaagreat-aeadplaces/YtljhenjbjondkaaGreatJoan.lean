/-
  The document's own answer: GHASH's product.
-/
import Derived.Test.YtljhenjbjondkaaGreatProg
import Derived.Test.YtljhenjbjondkaaGreatJoam
import Derived.Handy
import Derived.WalkSmall
namespace Go.Proofs.Gcm
open Go.RowKit
theorem int64 {a b : Int} (h : a = b) : Value.int .u64 a = .int .u64 b := by rw [h]
theorem wrap_two (z : Nat) : IntKind.u64.wrap ((z : Int) * 2) = ((z * 2 % 18446744073709551616 : Nat) : Int) := by
  show (z : Int) * 2 % 18446744073709551616 = _
  omega
theorem half_xor (c : Nat) (hc : c < 18446744073709551616) : bits .xor .u64 ((c : Int) / 2) 16212958658533785600 = (((c / 2) ^^^ 16212958658533785600 : Nat) : Int) := by
  rw [show (c : Int) / 2 = ((c / 2 : Nat) : Int) by omega]
  exact u64_xor_nat (c / 2) 16212958658533785600 (by omega) (by decide)
theorem half (c : Nat) : (c : Int) / 2 = ((c / 2 : Nat) : Int) := by omega
theorem meas (K j : Nat) (h : j < K) : K - (intOf (.int .i64 ((j : Int) + 1))).toNat < K - (intOf (.int .i64 (j : Int))).toNat := by
  show K - ((j : Int) + 1).toNat < K - (j : Int).toNat
  omega
set_option maxHeartbeats 4000000 in
theorem times_any (a b c d : Nat) (w : World) (ha : a < 18446744073709551616) (hb : b < 18446744073709551616) (hc : c < 18446744073709551616) (hd : d < 18446744073709551616) :
    Calls Tryz.prog 88 #[.int .u64 a, .int .u64 b, .int .u64 c, .int .u64 d] w fun e w' => e = .returned (.tuple #[.int .u64 (mulX a b c d : Nat), .int .u64 (mulY a b c d : Nat)]) ∧ w = w' := by
  have H0 : Hid (Lt6 ⟨a, b, c, d, 0, 0⟩) := ⟨ha, hb, hc, hd, (by decide : (0 : Nat) < 18446744073709551616), (by decide : (0 : Nat) < 18446744073709551616)⟩
  clear ha hb hc hd
  go_enter Tryz.func88, Tryz.ntmps88
  go_wp2_with (fail)
  go_loop [0, 1, 2, 3, 10, 11, 12] (fun va vb vc vd vx vy vi => ∃ (n : Nat) (s : TS), Hid (n ≤ 128) ∧ vi = .int .i64 n ∧ Hid (s = tRun ⟨a, b, c, d, 0, 0⟩ n) ∧ va = .int .u64 (s.a : Nat) ∧ vb = .int .u64 (s.b : Nat) ∧ vc = .int .u64 (s.c : Nat) ∧ vd = .int .u64 (s.d : Nat) ∧ vx = .int .u64 (s.x : Nat) ∧ vy = .int .u64 (s.y : Nat)) (fun _ _ _ _ _ _ i => 128 - (intOf i).toNat)
  case atStart => exact ⟨0, ⟨a, b, c, d, 0, 0⟩, Nat.zero_le _, rfl, rfl, rfl, rfl, rfl, rfl, rfl, rfl⟩
  case round =>
    obtain ⟨n, s, hn, rfl, HE, rfl, rfl, rfl, rfl, rfl, rfl⟩ := hrel
    have HS : Hid (tRun ⟨a, b, c, d, 0, 0⟩ (n + 1) = tStep n s) := by show tStep n (tRun ⟨a, b, c, d, 0, 0⟩ n) = tStep n s; rw [← HE.out]
    have HL : Lt6 s := by have := tRun_lt _ H0.out n; rwa [← HE.out] at this
    obtain ⟨sa, sb, sc, sd, sx, sy⟩ := s
    obtain ⟨h1, h2, h3, h4, h5, h6⟩ := HL
    simp only at h1 h2 h3 h4 h5 h6 ⊢
    by_cases hlt : n < 128
    · have nl : ((n : Int) < 128) = True := eq_true (by omega)
      have HN := Lib.hid hlt
      have o1 := or_shift sc sd h4
      have o2 := and_one sd h4
      have HO1 := Lib.hid o1
      have wn : wrap64 ((n : Int) + 1) = (n : Int) + 1 := IntWalk.wrap64_in _ (by omega)
      clear hlt
      by_cases h63 : 63 < n
      · have n63 : ((63 : Int) < (n : Int)) = True := eq_true (by omega)
        by_cases hbit : sb / 9223372036854775808 = 1
        · have e1 : ((sb : Int) / 9223372036854775808 == 1) = true := by simp; omega
          by_cases hlow : sd % 2 = 1
          · rw [hlow] at o2
            have o3 : bits .and .u64 (sd : Int) 1 = 1 := o2
            go_wp2_with (fail)
            refine ⟨⟨n + 1, tStep n ⟨sa, sb, sc, sd, sx, sy⟩, HN.out, by first | rfl | (rw [wn]; rfl), HS.out.symm, int64 ?_, int64 ?_, int64 ?_, int64 ?_, int64 ?_, int64 ?_⟩, by first | exact meas 128 n HN.out | (rw [wn]; exact meas 128 n HN.out)⟩
            · rw [show (tStep n ⟨sa, sb, sc, sd, sx, sy⟩).a = sa from if_pos h63]
            · rw [show (tStep n ⟨sa, sb, sc, sd, sx, sy⟩).b = sb * 2 % 18446744073709551616 from if_pos h63]; first | exact wrap_two sb | omega
            · rw [show (tStep n ⟨sa, sb, sc, sd, sx, sy⟩).c = (sc / 2) ^^^ 16212958658533785600 from if_pos hlow]; exact half_xor sc h3
            · exact HO1.out
            · rw [show (tStep n ⟨sa, sb, sc, sd, sx, sy⟩).x = sx ^^^ sc from if_pos ((show tBit n ⟨sa, sb, sc, sd, sx, sy⟩ = sb / 9223372036854775808 from if_pos h63).trans hbit)]; exact u64_xor_nat sx sc h5 h3
            · rw [show (tStep n ⟨sa, sb, sc, sd, sx, sy⟩).y = sy ^^^ sd from if_pos ((show tBit n ⟨sa, sb, sc, sd, sx, sy⟩ = sb / 9223372036854775808 from if_pos h63).trans hbit)]; exact u64_xor_nat sy sd h6 h4
          · rw [show sd % 2 = 0 by omega] at o2
            have o3 : bits .and .u64 (sd : Int) 1 = 0 := o2
            go_wp2_with (fail)
            refine ⟨⟨n + 1, tStep n ⟨sa, sb, sc, sd, sx, sy⟩, HN.out, by first | rfl | (rw [wn]; rfl), HS.out.symm, int64 ?_, int64 ?_, int64 ?_, int64 ?_, int64 ?_, int64 ?_⟩, by first | exact meas 128 n HN.out | (rw [wn]; exact meas 128 n HN.out)⟩
            · rw [show (tStep n ⟨sa, sb, sc, sd, sx, sy⟩).a = sa from if_pos h63]
            · rw [show (tStep n ⟨sa, sb, sc, sd, sx, sy⟩).b = sb * 2 % 18446744073709551616 from if_pos h63]; first | exact wrap_two sb | omega
            · rw [show (tStep n ⟨sa, sb, sc, sd, sx, sy⟩).c = sc / 2 from if_neg hlow]; exact half sc
            · exact HO1.out
            · rw [show (tStep n ⟨sa, sb, sc, sd, sx, sy⟩).x = sx ^^^ sc from if_pos ((show tBit n ⟨sa, sb, sc, sd, sx, sy⟩ = sb / 9223372036854775808 from if_pos h63).trans hbit)]; exact u64_xor_nat sx sc h5 h3
            · rw [show (tStep n ⟨sa, sb, sc, sd, sx, sy⟩).y = sy ^^^ sd from if_pos ((show tBit n ⟨sa, sb, sc, sd, sx, sy⟩ = sb / 9223372036854775808 from if_pos h63).trans hbit)]; exact u64_xor_nat sy sd h6 h4
        · have e1 : ((sb : Int) / 9223372036854775808 == 1) = false := by simp; omega
          by_cases hlow : sd % 2 = 1
          · rw [hlow] at o2
            have o3 : bits .and .u64 (sd : Int) 1 = 1 := o2
            go_wp2_with (fail)
            refine ⟨⟨n + 1, tStep n ⟨sa, sb, sc, sd, sx, sy⟩, HN.out, by first | rfl | (rw [wn]; rfl), HS.out.symm, int64 ?_, int64 ?_, int64 ?_, int64 ?_, int64 ?_, int64 ?_⟩, by first | exact meas 128 n HN.out | (rw [wn]; exact meas 128 n HN.out)⟩
            · rw [show (tStep n ⟨sa, sb, sc, sd, sx, sy⟩).a = sa from if_pos h63]
            · rw [show (tStep n ⟨sa, sb, sc, sd, sx, sy⟩).b = sb * 2 % 18446744073709551616 from if_pos h63]; first | exact wrap_two sb | omega
            · rw [show (tStep n ⟨sa, sb, sc, sd, sx, sy⟩).c = (sc / 2) ^^^ 16212958658533785600 from if_pos hlow]; exact half_xor sc h3
            · exact HO1.out
            · rw [show (tStep n ⟨sa, sb, sc, sd, sx, sy⟩).x = sx from if_neg (fun h => hbit ((show tBit n ⟨sa, sb, sc, sd, sx, sy⟩ = sb / 9223372036854775808 from if_pos h63).symm.trans h))]
            · rw [show (tStep n ⟨sa, sb, sc, sd, sx, sy⟩).y = sy from if_neg (fun h => hbit ((show tBit n ⟨sa, sb, sc, sd, sx, sy⟩ = sb / 9223372036854775808 from if_pos h63).symm.trans h))]
          · rw [show sd % 2 = 0 by omega] at o2
            have o3 : bits .and .u64 (sd : Int) 1 = 0 := o2
            go_wp2_with (fail)
            refine ⟨⟨n + 1, tStep n ⟨sa, sb, sc, sd, sx, sy⟩, HN.out, by first | rfl | (rw [wn]; rfl), HS.out.symm, int64 ?_, int64 ?_, int64 ?_, int64 ?_, int64 ?_, int64 ?_⟩, by first | exact meas 128 n HN.out | (rw [wn]; exact meas 128 n HN.out)⟩
            · rw [show (tStep n ⟨sa, sb, sc, sd, sx, sy⟩).a = sa from if_pos h63]
            · rw [show (tStep n ⟨sa, sb, sc, sd, sx, sy⟩).b = sb * 2 % 18446744073709551616 from if_pos h63]; first | exact wrap_two sb | omega
            · rw [show (tStep n ⟨sa, sb, sc, sd, sx, sy⟩).c = sc / 2 from if_neg hlow]; exact half sc
            · exact HO1.out
            · rw [show (tStep n ⟨sa, sb, sc, sd, sx, sy⟩).x = sx from if_neg (fun h => hbit ((show tBit n ⟨sa, sb, sc, sd, sx, sy⟩ = sb / 9223372036854775808 from if_pos h63).symm.trans h))]
            · rw [show (tStep n ⟨sa, sb, sc, sd, sx, sy⟩).y = sy from if_neg (fun h => hbit ((show tBit n ⟨sa, sb, sc, sd, sx, sy⟩ = sb / 9223372036854775808 from if_pos h63).symm.trans h))]
      · have n63 : ((63 : Int) < (n : Int)) = False := eq_false (by omega)
        by_cases hbit : sa / 9223372036854775808 = 1
        · have e1 : ((sa : Int) / 9223372036854775808 == 1) = true := by simp; omega
          by_cases hlow : sd % 2 = 1
          · rw [hlow] at o2
            have o3 : bits .and .u64 (sd : Int) 1 = 1 := o2
            go_wp2_with (fail)
            refine ⟨⟨n + 1, tStep n ⟨sa, sb, sc, sd, sx, sy⟩, HN.out, by first | rfl | (rw [wn]; rfl), HS.out.symm, int64 ?_, int64 ?_, int64 ?_, int64 ?_, int64 ?_, int64 ?_⟩, by first | exact meas 128 n HN.out | (rw [wn]; exact meas 128 n HN.out)⟩
            · rw [show (tStep n ⟨sa, sb, sc, sd, sx, sy⟩).a = sa * 2 % 18446744073709551616 from if_neg h63]; first | exact wrap_two sa | omega
            · rw [show (tStep n ⟨sa, sb, sc, sd, sx, sy⟩).b = sb from if_neg h63]
            · rw [show (tStep n ⟨sa, sb, sc, sd, sx, sy⟩).c = (sc / 2) ^^^ 16212958658533785600 from if_pos hlow]; exact half_xor sc h3
            · exact HO1.out
            · rw [show (tStep n ⟨sa, sb, sc, sd, sx, sy⟩).x = sx ^^^ sc from if_pos ((show tBit n ⟨sa, sb, sc, sd, sx, sy⟩ = sa / 9223372036854775808 from if_neg h63).trans hbit)]; exact u64_xor_nat sx sc h5 h3
            · rw [show (tStep n ⟨sa, sb, sc, sd, sx, sy⟩).y = sy ^^^ sd from if_pos ((show tBit n ⟨sa, sb, sc, sd, sx, sy⟩ = sa / 9223372036854775808 from if_neg h63).trans hbit)]; exact u64_xor_nat sy sd h6 h4
          · rw [show sd % 2 = 0 by omega] at o2
            have o3 : bits .and .u64 (sd : Int) 1 = 0 := o2
            go_wp2_with (fail)
            refine ⟨⟨n + 1, tStep n ⟨sa, sb, sc, sd, sx, sy⟩, HN.out, by first | rfl | (rw [wn]; rfl), HS.out.symm, int64 ?_, int64 ?_, int64 ?_, int64 ?_, int64 ?_, int64 ?_⟩, by first | exact meas 128 n HN.out | (rw [wn]; exact meas 128 n HN.out)⟩
            · rw [show (tStep n ⟨sa, sb, sc, sd, sx, sy⟩).a = sa * 2 % 18446744073709551616 from if_neg h63]; first | exact wrap_two sa | omega
            · rw [show (tStep n ⟨sa, sb, sc, sd, sx, sy⟩).b = sb from if_neg h63]
            · rw [show (tStep n ⟨sa, sb, sc, sd, sx, sy⟩).c = sc / 2 from if_neg hlow]; exact half sc
            · exact HO1.out
            · rw [show (tStep n ⟨sa, sb, sc, sd, sx, sy⟩).x = sx ^^^ sc from if_pos ((show tBit n ⟨sa, sb, sc, sd, sx, sy⟩ = sa / 9223372036854775808 from if_neg h63).trans hbit)]; exact u64_xor_nat sx sc h5 h3
            · rw [show (tStep n ⟨sa, sb, sc, sd, sx, sy⟩).y = sy ^^^ sd from if_pos ((show tBit n ⟨sa, sb, sc, sd, sx, sy⟩ = sa / 9223372036854775808 from if_neg h63).trans hbit)]; exact u64_xor_nat sy sd h6 h4
        · have e1 : ((sa : Int) / 9223372036854775808 == 1) = false := by simp; omega
          by_cases hlow : sd % 2 = 1
          · rw [hlow] at o2
            have o3 : bits .and .u64 (sd : Int) 1 = 1 := o2
            go_wp2_with (fail)
            refine ⟨⟨n + 1, tStep n ⟨sa, sb, sc, sd, sx, sy⟩, HN.out, by first | rfl | (rw [wn]; rfl), HS.out.symm, int64 ?_, int64 ?_, int64 ?_, int64 ?_, int64 ?_, int64 ?_⟩, by first | exact meas 128 n HN.out | (rw [wn]; exact meas 128 n HN.out)⟩
            · rw [show (tStep n ⟨sa, sb, sc, sd, sx, sy⟩).a = sa * 2 % 18446744073709551616 from if_neg h63]; first | exact wrap_two sa | omega
            · rw [show (tStep n ⟨sa, sb, sc, sd, sx, sy⟩).b = sb from if_neg h63]
            · rw [show (tStep n ⟨sa, sb, sc, sd, sx, sy⟩).c = (sc / 2) ^^^ 16212958658533785600 from if_pos hlow]; exact half_xor sc h3
            · exact HO1.out
            · rw [show (tStep n ⟨sa, sb, sc, sd, sx, sy⟩).x = sx from if_neg (fun h => hbit ((show tBit n ⟨sa, sb, sc, sd, sx, sy⟩ = sa / 9223372036854775808 from if_neg h63).symm.trans h))]
            · rw [show (tStep n ⟨sa, sb, sc, sd, sx, sy⟩).y = sy from if_neg (fun h => hbit ((show tBit n ⟨sa, sb, sc, sd, sx, sy⟩ = sa / 9223372036854775808 from if_neg h63).symm.trans h))]
          · rw [show sd % 2 = 0 by omega] at o2
            have o3 : bits .and .u64 (sd : Int) 1 = 0 := o2
            go_wp2_with (fail)
            refine ⟨⟨n + 1, tStep n ⟨sa, sb, sc, sd, sx, sy⟩, HN.out, by first | rfl | (rw [wn]; rfl), HS.out.symm, int64 ?_, int64 ?_, int64 ?_, int64 ?_, int64 ?_, int64 ?_⟩, by first | exact meas 128 n HN.out | (rw [wn]; exact meas 128 n HN.out)⟩
            · rw [show (tStep n ⟨sa, sb, sc, sd, sx, sy⟩).a = sa * 2 % 18446744073709551616 from if_neg h63]; first | exact wrap_two sa | omega
            · rw [show (tStep n ⟨sa, sb, sc, sd, sx, sy⟩).b = sb from if_neg h63]
            · rw [show (tStep n ⟨sa, sb, sc, sd, sx, sy⟩).c = sc / 2 from if_neg hlow]; exact half sc
            · exact HO1.out
            · rw [show (tStep n ⟨sa, sb, sc, sd, sx, sy⟩).x = sx from if_neg (fun h => hbit ((show tBit n ⟨sa, sb, sc, sd, sx, sy⟩ = sa / 9223372036854775808 from if_neg h63).symm.trans h))]
            · rw [show (tStep n ⟨sa, sb, sc, sd, sx, sy⟩).y = sy from if_neg (fun h => hbit ((show tBit n ⟨sa, sb, sc, sd, sx, sy⟩ = sa / 9223372036854775808 from if_neg h63).symm.trans h))]
    · have nl : ((n : Int) < 128) = False := eq_false (by omega)
      obtain rfl : n = 128 := by have := hn.out; omega
      have HX : Hid (mulX a b c d = sx) := by show (tRun ⟨a, b, c, d, 0, 0⟩ 128).x = sx; rw [← HE.out]
      have HY : Hid (mulY a b c d = sy) := by show (tRun ⟨a, b, c, d, 0, 0⟩ 128).y = sy; rw [← HE.out]
      clear hlt HS
      go_wp2_with (fail)
      go_ret2
      exact ⟨by rw [HX.out, HY.out]; rfl, rfl⟩
end Go.Proofs.Gcm
