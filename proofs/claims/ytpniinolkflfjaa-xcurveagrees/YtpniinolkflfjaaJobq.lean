/-
  X25519's curve: its numbers, its base point, the point's order; both come to one secret. Of no program.
-/
import Derived.Test.YtpniinolkflfjaaJobp
namespace Go.Proofs.Nt
theorem pq_2551 : Prime 2551 := of_trial (by decide) (by decide +kernel)
theorem pq_1224481 : Prime 1224481 :=
  pock1 (q := 2551) (e := 0) pq_2551 (by decide +kernel) (by decide +kernel) (by decide +kernel)
theorem pq_73 : Prime 73 := of_trial (by decide) (by decide +kernel)
theorem pq_3797 : Prime 3797 :=
  pock1 (q := 73) (e := 0) pq_73 (by decide +kernel) (by decide +kernel) (by decide +kernel)
theorem pq_531581 : Prime 531581 :=
  pock1 (q := 3797) (e := 0) pq_3797 (by decide +kernel) (by decide +kernel) (by decide +kernel)
theorem pq_1257559732178653 : Prime 1257559732178653 :=
  pock2 (q := 1224481) (e := 0) (q2 := 531581) (e2 := 0) pq_1224481 pq_531581 (by decide) (by decide +kernel) (by decide +kernel) (by decide +kernel) (by decide +kernel)
theorem pq_4434155615661930479 : Prime 4434155615661930479 :=
  pock1 (q := 1257559732178653) (e := 0) pq_1257559732178653 (by decide +kernel) (by decide +kernel) (by decide +kernel)
theorem pq_172054593956031949258510691 : Prime 172054593956031949258510691 :=
  pock1 (q := 4434155615661930479) (e := 0) pq_4434155615661930479 (by decide +kernel) (by decide +kernel) (by decide +kernel)
theorem pq_19757330305831588566944191468367130476339 : Prime 19757330305831588566944191468367130476339 :=
  pock1 (q := 172054593956031949258510691) (e := 0) pq_172054593956031949258510691 (by decide +kernel) (by decide +kernel) (by decide +kernel)
theorem pq_276602624281642239937218680557139826668747 : Prime 276602624281642239937218680557139826668747 :=
  pock1 (q := 19757330305831588566944191468367130476339) (e := 0) pq_19757330305831588566944191468367130476339 (by decide +kernel) (by decide +kernel) (by decide +kernel)
theorem pq_7237005577332262213973186563042994240857116359379907606001950938285454250989 : Prime 7237005577332262213973186563042994240857116359379907606001950938285454250989 :=
  pock1 (q := 276602624281642239937218680557139826668747) (e := 0) pq_276602624281642239937218680557139826668747 (by decide +kernel) (by decide +kernel) (by decide +kernel)
/-- A number whose power by half of the prime less one is minus one is no square. -/
theorem no_sq {p c : Nat} (hp : Prime p) (h2 : 2 < p) (hodd : p % 2 = 1) (hlt : p / 2 < 2 ^ 256) (hpm : pm p 256 c (p / 2) 1 = p - 1) (s : Nat) : ¬ s * s % p = c := fun e => by
  rw [pm_eq p 256 c (p / 2) 1 hlt, Nat.one_mul] at hpm
  obtain ⟨k, hk⟩ : ∃ k, p / 2 = k := ⟨_, rfl⟩
  rw [hk] at hpm
  by_cases hd : p ∣ s
  · have e0 : c = 0 := by
      rw [← e]
      exact Nat.mod_eq_zero_of_dvd (Nat.dvd_trans hd (Nat.dvd_mul_right s s))
    rw [e0, Nat.zero_pow (by omega), Nat.zero_mod] at hpm
    omega
  · have hf := fermat hp hd
    rw [← e, ← Nat.pow_mod, Nat.mul_pow, ← Nat.pow_add, show k + k = p - 1 by omega, hf] at hpm
    omega
end Go.Proofs.Nt
namespace Go.Proofs.Ec
open Go.Proofs.Nt
abbrev pX : Nat := 57896044618658097711785492504343953926634992332820282019728792003956564819949
def d25 : Fin pX := ⟨37095705934669439343138083508754565189542113879843219016388785533085940283555, by decide +kernel⟩
def i25 : Fin pX := ⟨19681161376707505956807079304988542015446066515923890162744021073123829784752, by decide +kernel⟩
/-- The base point. -/
def PX : Pt pX := ⟨⟨15112221349535400772501151409588531511454012693041857206046113283949847762202, by decide +kernel⟩, ⟨46316835694926478169428394003475163141307993866256225615783033603165251855960, by decide +kernel⟩⟩
abbrev lX : Nat := 7237005577332262213973186563042994240857116359379907606001950938285454250989
theorem cvX : Cv pX d25 i25 where
  pr := mod_x
  two := by decide +kernel
  sq := by decide +kernel
  non := fun s e => no_sq (p := pX) (c := 37095705934669439343138083508754565189542113879843219016388785533085940283555) mod_x (by decide +kernel) (by decide +kernel) (by decide +kernel) (by decide +kernel) s.val (congrArg Fin.val e)
theorem hcX : d25 * ((121665 : Fin pX) + 1) = -121665 := by decide +kernel
theorem haX : ¬ (121665 : Fin pX) + 1 = 0 := by decide +kernel
theorem onX : On d25 PX := by
  show d25 * PX.x * PX.x * PX.y * PX.y = PX.y * PX.y - PX.x * PX.x - 1
  decide +kernel
theorem fineX : Fine PX := ⟨by decide +kernel, by decide +kernel⟩
theorem nineX : (9 : Fin pX) * (1 - PX.y) = 1 + PX.y := by decide +kernel
theorem lastX : (lad (m := pX) 121665 9 lX 255).z2 = 0 := by decide +kernel
theorem prime_lX : Prime lX := pq_7237005577332262213973186563042994240857116359379907606001950938285454250989
section
variable {m : Nat} [NeZero m] {d i : Fin m}
theorem of_y (h : Cv m d i) {a : Fin m} (hc : d * (a + 1) = -a) {Q : Pt m} (hQ : On d Q) (hy : 1 - Q.y = 0) : Q = zero := by
  have ho : d * Q.x * Q.x * Q.y * Q.y = Q.y * Q.y - Q.x * Q.x - 1 := hQ
  refine Pt.eq ?_ ?_
  · show Q.x = 0
    generalize Q.x = x at *
    generalize Q.y = y at *
    have e1 : x * x = 0 := by clear hQ; grind
    rcases no_zero h.pr e1 with e | e <;> exact e
  · show Q.y = 1
    generalize Q.y = y at *
    clear hQ ho
    grind
theorem order_of (h : Cv m d i) {a : Fin m} (hc : d * (a + 1) = -a) (ha : ¬ a + 1 = 0) {P : Pt m} (hP : On d P) (hF : Fine P) {u : Fin m} (hu : u * (1 - P.y) = 1 + P.y) {e : Nat} (he : e < 2 ^ 255) (hz : (lad a u e 255).z2 = 0) : mul d e P = zero := by
  have r := (lad_rep h hc ha hP hF hu he 255 (Nat.le_refl _)).1
  rw [Nat.sub_self, Nat.pow_zero, Nat.div_one] at r
  obtain ⟨r1, r2⟩ := r
  refine of_y h hc (mul_on h hP e) ?_
  have r0 : (lad a u e 255).x2 * (1 - (mul d e P).y) = 0 := by rw [r1, hz]; generalize 1 + (mul d e P).y = q; clear r1 r2 hz; grind
  exact (no_zero h.pr r0).resolve_left fun q => r2 ⟨q, hz⟩
end
theorem ordX : mul d25 lX PX = zero := order_of cvX hcX haX onX fineX nineX (by decide +kernel) lastX
/-- What a key is when it is clamped. -/
def Clamp (e : Nat) : Prop := 2 ^ 254 ≤ e ∧ e < 2 ^ 255 ∧ e % 8 = 0
theorem clamp_no {l e : Nat} (hl : Prime l) (hb : 2 ^ 252 < l) (h : Clamp e) : ¬ l ∣ e := fun hd => by
  obtain ⟨h1, h2, h3⟩ := h
  obtain ⟨q, rfl⟩ : ∃ q, e = 8 * q := ⟨e / 8, by omega⟩
  rcases hl.dvd_mul hd with c | c
  · have := Nat.le_of_dvd (by decide) c; omega
  · have := Nat.le_of_dvd (by omega) c; omega
theorem clamp_lX {e : Nat} (h : Clamp e) : ¬ lX ∣ e := clamp_no prime_lX (by decide +kernel) h
theorem fine_mul {e : Nat} (h : ¬ lX ∣ e) : Fine (mul d25 e PX) := fine_of cvX hcX onX prime_lX (by decide +kernel) ordX fineX h
theorem agreeX {e f : Nat} (he : Clamp e) (hf : Clamp f) : ladU (m := pX) 121665 (ladU 121665 9 f) e = ladU 121665 (ladU 121665 9 e) f :=
  lad_agree cvX hcX haX onX fineX nineX he.2.1 hf.2.1 (fine_mul (clamp_lX he)) (fine_mul (clamp_lX hf))
theorem publicX {e : Nat} (he : Clamp e) : ¬ ladU (m := pX) 121665 9 e = 0 := lad_ne cvX hcX haX onX fineX nineX he.2.1 (fine_mul (clamp_lX he))
theorem sharedX {e f : Nat} (he : Clamp e) (hf : Clamp f) : ¬ ladU (m := pX) 121665 (ladU 121665 9 f) e = 0 :=
  lad_ne2 cvX hcX haX onX fineX nineX he.2.1 hf.2.1 (fine_mul (clamp_lX hf)) (fine_mul fun hd => by
    rcases prime_lX.dvd_mul hd with c | c
    · exact clamp_lX hf c
    · exact clamp_lX he c)
end Go.Proofs.Ec
/-
  The ladder of X25519 at points of small order: it comes to 0. Of no program.
-/
namespace Go.Proofs.Ec
open Go.Proofs.Nt
section
variable {m : Nat} [NeZero m] {d i : Fin m}
def Ka (X Z : Fin m) : Prop := Z = 0 ∧ ¬ X = 0
def Kb (u X Z : Fin m) : Prop := X = u * Z ∧ ¬ Z = 0
def Kc (X Z : Fin m) : Prop := X = 0 ∧ ¬ Z = 0
theorem dX_inf (X : Fin m) : dX X 0 = X * X * (X * X) := by unfold dX; grind
theorem dZ_inf (a X : Fin m) : dZ a X 0 = 0 := by unfold dZ; grind
theorem dX_nil (Z : Fin m) : dX 0 Z = Z * Z * (Z * Z) := by unfold dX; grind
theorem dZ_nil (a Z : Fin m) : dZ a 0 Z = 0 := by unfold dZ; grind
theorem dX_one {u : Fin m} (hu : u * u = 1) (Z : Fin m) : dX (u * Z) Z = 0 := by unfold dX; grind
theorem dZ_one {u : Fin m} (hu : u * u = 1) (a Z : Fin m) : dZ a (u * Z) Z = 2 * 2 * 2 * (Z * Z * (Z * Z)) * (u + 1 + 2 * a) := by unfold dZ; grind
theorem dbl_a (h : Cv m d i) (a : Fin m) {X Z : Fin m} (k : Ka X Z) : Ka (dX X Z) (dZ a X Z) := by
  obtain ⟨rfl, k2⟩ := k
  exact ⟨dZ_inf a X, by rw [dX_inf]; exact mul_ne h.pr (mul_ne h.pr k2 k2) (mul_ne h.pr k2 k2)⟩
theorem dbl_c (h : Cv m d i) (a : Fin m) {X Z : Fin m} (k : Kc X Z) : Ka (dX X Z) (dZ a X Z) := by
  obtain ⟨rfl, k2⟩ := k
  exact ⟨dZ_nil a Z, by rw [dX_nil]; exact mul_ne h.pr (mul_ne h.pr k2 k2) (mul_ne h.pr k2 k2)⟩
theorem dbl_b (h : Cv m d i) {a u : Fin m} (hu : u * u = 1) (hn : ¬ u + 1 + 2 * a = 0) {X Z : Fin m} (k : Kb u X Z) : Kc (dX X Z) (dZ a X Z) := by
  obtain ⟨rfl, k2⟩ := k
  exact ⟨dX_one hu Z, by rw [dZ_one hu]; exact mul_ne h.pr (mul_ne h.pr (mul_ne h.pr (mul_ne h.pr h.two h.two) h.two) (mul_ne h.pr (mul_ne h.pr k2 k2) (mul_ne h.pr k2 k2))) hn⟩
theorem unit_ne (h : Cv m d i) {u : Fin m} (hu : u * u = 1) : ¬ u = 0 := fun e => one_ne h (by rw [← hu, e]; grind)
theorem sum_ab (h : Cv m d i) {u : Fin m} (hu : u * u = 1) {X2 Z2 X3 Z3 : Fin m} (k2 : Ka X2 Z2) (k3 : Kb u X3 Z3) : Kb u (sX X2 Z2 X3 Z3) (sZ u X2 Z2 X3 Z3) := by
  obtain ⟨rfl, q2⟩ := k2
  obtain ⟨rfl, q3⟩ := k3
  have e1 : sX X2 0 (u * Z3) Z3 = 2 * 2 * (X2 * Z3 * (X2 * Z3)) := by unfold sX; grind
  have e2 : sZ u X2 0 (u * Z3) Z3 = 2 * 2 * (X2 * Z3 * (X2 * Z3)) * u := by unfold sZ; grind
  have n := mul_ne h.pr (mul_ne h.pr h.two h.two) (mul_ne h.pr (mul_ne h.pr q2 q3) (mul_ne h.pr q2 q3))
  rw [e1, e2]
  exact ⟨by grind, mul_ne h.pr n (unit_ne h hu)⟩
theorem sum_cb (h : Cv m d i) {u : Fin m} (hu : u * u = 1) {X2 Z2 X3 Z3 : Fin m} (k2 : Kc X2 Z2) (k3 : Kb u X3 Z3) : Kb u (sX X2 Z2 X3 Z3) (sZ u X2 Z2 X3 Z3) := by
  obtain ⟨rfl, q2⟩ := k2
  obtain ⟨rfl, q3⟩ := k3
  have e1 : sX 0 Z2 (u * Z3) Z3 = 2 * 2 * (Z2 * Z3 * (Z2 * Z3)) := by unfold sX; grind
  have e2 : sZ u 0 Z2 (u * Z3) Z3 = 2 * 2 * (Z2 * Z3 * (Z2 * Z3)) * u := by unfold sZ; grind
  have n := mul_ne h.pr (mul_ne h.pr h.two h.two) (mul_ne h.pr (mul_ne h.pr q2 q3) (mul_ne h.pr q2 q3))
  rw [e1, e2]
  exact ⟨by grind, mul_ne h.pr n (unit_ne h hu)⟩
theorem sum_ba (h : Cv m d i) {u : Fin m} (hu : u * u = 1) {X2 Z2 X3 Z3 : Fin m} (k2 : Kb u X2 Z2) (k3 : Ka X3 Z3) : Kb u (sX X2 Z2 X3 Z3) (sZ u X2 Z2 X3 Z3) := by
  rw [← sX_turn, ← sZ_turn]; exact sum_ab h hu k3 k2
theorem sum_bc (h : Cv m d i) {u : Fin m} (hu : u * u = 1) {X2 Z2 X3 Z3 : Fin m} (k2 : Kb u X2 Z2) (k3 : Kc X3 Z3) : Kb u (sX X2 Z2 X3 Z3) (sZ u X2 Z2 X3 Z3) := by
  rw [← sX_turn, ← sZ_turn]; exact sum_cb h hu k3 k2
/-- The states that such a ladder goes through. -/
def Ks (u : Fin m) (s : St m) : Prop := (Ka s.x2 s.z2 ∧ Kb u s.x3 s.z3) ∨ (Kb u s.x2 s.z2 ∧ Kc s.x3 s.z3) ∨ (Kc s.x2 s.z2 ∧ Kb u s.x3 s.z3) ∨ (Kb u s.x2 s.z2 ∧ Ka s.x3 s.z3)
theorem Ks.step (h : Cv m d i) {a u : Fin m} (hu : u * u = 1) (hn : ¬ u + 1 + 2 * a = 0) (b : Nat) {s : St m} (k : Ks u s) : Ks u (step a u b s) := by
  unfold Ec.step
  by_cases hb : b = 0
  · rw [if_pos hb]
    rcases k with ⟨k2, k3⟩ | ⟨k2, k3⟩ | ⟨k2, k3⟩ | ⟨k2, k3⟩
    · exact .inl ⟨dbl_a h a k2, sum_ab h hu k2 k3⟩
    · exact .inr (.inr (.inl ⟨dbl_b h hu hn k2, sum_bc h hu k2 k3⟩))
    · exact .inl ⟨dbl_c h a k2, sum_cb h hu k2 k3⟩
    · exact .inr (.inr (.inl ⟨dbl_b h hu hn k2, sum_ba h hu k2 k3⟩))
  · rw [if_neg hb]
    rcases k with ⟨k2, k3⟩ | ⟨k2, k3⟩ | ⟨k2, k3⟩ | ⟨k2, k3⟩
    · exact .inr (.inl ⟨sum_ab h hu k2 k3, dbl_b h hu hn k3⟩)
    · exact .inr (.inr (.inr ⟨sum_bc h hu k2 k3, dbl_c h a k3⟩))
    · exact .inr (.inl ⟨sum_cb h hu k2 k3, dbl_b h hu hn k3⟩)
    · exact .inr (.inr (.inr ⟨sum_ba h hu k2 k3, dbl_a h a k3⟩))
theorem ks_lad (h : Cv m d i) {a u : Fin m} (hu : u * u = 1) (hn : ¬ u + 1 + 2 * a = 0) (e : Nat) : ∀ j, Ks u (lad a u e j)
  | 0 => .inl ⟨⟨rfl, one_ne h⟩, ⟨by show u = u * 1; grind, one_ne h⟩⟩
  | j + 1 => (ks_lad h hu hn e j).step h hu hn _
/-- A bit 0 leads to one of two, the next to one. -/
theorem ks_even (h : Cv m d i) {a u : Fin m} (hu : u * u = 1) (hn : ¬ u + 1 + 2 * a = 0) {s : St m} (k : Ks u s) : (step a u 0 (step a u 0 s)).z2 = 0 := by
  show dZ a (dX s.x2 s.z2) (dZ a s.x2 s.z2) = 0
  rcases k with ⟨k2, _⟩ | ⟨k2, _⟩ | ⟨k2, _⟩ | ⟨k2, _⟩
  · exact (dbl_a h a (dbl_a h a k2)).1
  · exact (dbl_c h a (dbl_b h hu hn k2)).1
  · exact (dbl_a h a (dbl_c h a k2)).1
  · exact (dbl_c h a (dbl_b h hu hn k2)).1
theorem small_one (h : Cv m d i) {a u : Fin m} (hu : u * u = 1) (hn : ¬ u + 1 + 2 * a = 0) {e : Nat} (he : e % 4 = 0) : ladU a u e = 0 := by
  have e1 : lad a u e 255 = step a u 0 (step a u 0 (lad a u e 253)) := by
    show step a u (e / 2 ^ (254 - 254) % 2) (step a u (e / 2 ^ (254 - 253) % 2) (lad a u e 253)) = _
    rw [show 254 - 254 = 0 from rfl, show 254 - 253 = 1 from rfl, Nat.pow_zero, Nat.div_one, Nat.pow_one, show e % 2 = 0 by omega, show e / 2 % 2 = 0 by omega]
  unfold ladU
  rw [e1, ks_even h hu hn (ks_lad h hu hn e 253), iv_zero h, mul_nil]
def Kz (s : St m) : Prop := s.x2 * s.z2 = 0 ∧ s.x3 * s.z3 = 0
theorem dZ_four (a X Z : Fin m) : dZ a X Z = X * Z * (2 * 2 * ((X + Z) * (X + Z) + a * ((X + Z) * (X + Z) - (X - Z) * (X - Z)))) := by unfold dZ; grind
theorem nil_mul (a : Fin m) : 0 * a = 0 := by grind
theorem kz_lad (a : Fin m) (e : Nat) : ∀ j, Kz (lad a 0 e j)
  | 0 => ⟨by show (1 : Fin m) * 0 = 0; exact mul_nil _, by show (0 : Fin m) * 1 = 0; exact nil_mul _⟩
  | j + 1 => by
    have k := kz_lad a e j
    show Kz (step a 0 _ (lad a 0 e j))
    have sz : ∀ X2 Z2 X3 Z3 : Fin m, sZ 0 X2 Z2 X3 Z3 = 0 := fun _ _ _ _ => by unfold sZ; exact nil_mul _
    unfold step
    split
    · refine ⟨?_, ?_⟩
      · show dX _ _ * dZ _ _ _ = 0
        rw [dZ_four, k.1, nil_mul, mul_nil]
      · show sX _ _ _ _ * sZ 0 _ _ _ _ = 0
        rw [sz, mul_nil]
    · refine ⟨?_, ?_⟩
      · show sX _ _ _ _ * sZ 0 _ _ _ _ = 0
        rw [sz, mul_nil]
      · show dX _ _ * dZ _ _ _ = 0
        rw [dZ_four, k.2, nil_mul, mul_nil]
theorem small_zero (h : Cv m d i) (a : Fin m) (e : Nat) : ladU a 0 e = 0 := by
  have k := (kz_lad a e 255).1
  unfold ladU
  rcases no_zero h.pr k with q | q
  · rw [q, nil_mul]
  · rw [q, iv_zero h, mul_nil]
end
theorem smallX_zero (e : Nat) : ladU (m := pX) 121665 0 e = 0 := small_zero cvX _ e
theorem smallX_one {e : Nat} (he : Clamp e) : ladU (m := pX) 121665 1 e = 0 := small_one cvX (by decide +kernel) (by decide +kernel) (by have := he.2.2; omega)
theorem smallX_minus {e : Nat} (he : Clamp e) : ladU (m := pX) 121665 (-1) e = 0 := small_one cvX (by decide +kernel) (by decide +kernel) (by have := he.2.2; omega)
end Go.Proofs.Ec
