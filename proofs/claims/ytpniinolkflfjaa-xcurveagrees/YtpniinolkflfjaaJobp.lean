/-
  The ladder of X25519 on a twisted Edwards curve: what it comes to. Of no program.
-/
import Derived.Test.YtpniinolkflfjaaJobo
namespace Go.Proofs.Ec
open Go.Proofs.Nt
/-- Two numbers for k times a point, two for k + 1 times. -/
structure St (m : Nat) where
  x2 : Fin m
  z2 : Fin m
  x3 : Fin m
  z3 : Fin m
section
variable {m : Nat} [NeZero m] {d i : Fin m}
/-- One step: the next bit of the scalar. -/
def step (a u : Fin m) (b : Nat) (s : St m) : St m :=
  if b = 0 then ⟨dX s.x2 s.z2, dZ a s.x2 s.z2, sX s.x2 s.z2 s.x3 s.z3, sZ u s.x2 s.z2 s.x3 s.z3⟩
  else ⟨sX s.x2 s.z2 s.x3 s.z3, sZ u s.x2 s.z2 s.x3 s.z3, dX s.x3 s.z3, dZ a s.x3 s.z3⟩
/-- The first j of 255 steps. -/
def lad (a u : Fin m) (e : Nat) : Nat → St m
  | 0 => ⟨1, 0, u, 1⟩
  | j + 1 => step a u (e / 2 ^ (254 - j) % 2) (lad a u e j)
/-- The one coordinate of a point, 0 for the neutral one. -/
def uc (Q : Pt m) : Fin m := (1 + Q.y) * iv (1 - Q.y)
/-- What the ladder answers. -/
def ladU (a u : Fin m) (e : Nat) : Fin m := (lad a u e 255).x2 * iv (lad a u e 255).z2
theorem sX_turn (X2 Z2 X3 Z3 : Fin m) : sX X3 Z3 X2 Z2 = sX X2 Z2 X3 Z3 := by unfold sX; grind
theorem sZ_turn (u X2 Z2 X3 Z3 : Fin m) : sZ u X3 Z3 X2 Z2 = sZ u X2 Z2 X3 Z3 := by unfold sZ; grind
theorem iv_zero (h : Cv m d i) : iv (0 : Fin m) = 0 := by
  have h1 := h.pr.1
  have h2 : ¬ m = 2 := fun e => by subst e; exact h.two rfl
  apply Fin.ext
  show (0 : Fin m).val ^ (m - 2) % m = (0 : Fin m).val
  rw [zero_val]
  obtain ⟨k, hk⟩ : ∃ k, m - 2 = k + 1 := ⟨m - 3, by omega⟩
  rw [hk, Nat.pow_succ, Nat.mul_zero, Nat.zero_mod]
theorem mul_nil (a : Fin m) : a * 0 = 0 := by grind
theorem plus_two (h : Cv m d i) {y : Fin m} (e : 1 - y = 0) : ¬ 1 + y = 0 := fun e2 => h.two (by grind)
theorem quot_id {X Z y p q : Fin m} (r : X * (1 - y) = Z * (1 + y)) (h1 : Z * p = 1) (h2 : (1 - y) * q = 1) : Z * (1 - y) * (X * p) = Z * (1 - y) * ((1 + y) * q) := by grind
theorem out_rep (h : Cv m d i) {Q : Pt m} {X Z : Fin m} (r : Rep Q X Z) : X * iv Z = uc Q := by
  obtain ⟨r1, r2⟩ := r
  unfold uc
  generalize Q.y = y at *
  by_cases hy : 1 - y = 0
  · have e0 : Z * (1 + y) = 0 := by rw [← r1, hy, mul_nil]
    have hZ : Z = 0 := (no_zero h.pr e0).resolve_right (plus_two h hy)
    rw [hZ, hy, iv_zero h, mul_nil, mul_nil]
  · have hZ : ¬ Z = 0 := fun e => r2 ⟨by
      have e0 : X * (1 - y) = 0 := by rw [r1, e]; grind
      exact (no_zero h.pr e0).resolve_right hy, e⟩
    exact cancel h.pr (mul_ne h.pr hZ hy) (quot_id r1 (iv_mul h.pr hZ) (iv_mul h.pr hy))
/-- The point is none of those at which the coordinate is 0 or none. -/
def Fine (P : Pt m) : Prop := ¬ 1 - P.y = 0 ∧ ¬ 1 + P.y = 0
theorem uc_eq (h : Cv m d i) {P : Pt m} (hF : Fine P) : uc P * (1 - P.y) = 1 + P.y := by
  have := iv_mul h.pr hF.1
  unfold uc
  generalize iv (1 - P.y) = t at *
  generalize P.y = y at *
  clear hF
  grind
theorem uc_ne (h : Cv m d i) {P : Pt m} (hF : Fine P) : ¬ uc P = 0 := fun e => hF.2 (by rw [← uc_eq h hF, e]; grind)
theorem lad_rep (h : Cv m d i) {a : Fin m} (hc : d * (a + 1) = -a) (ha : ¬ a + 1 = 0) {P : Pt m} (hP : On d P) (hF : Fine P) {u : Fin m} (hu : u * (1 - P.y) = 1 + P.y) {e : Nat} (he : e < 2 ^ 255) :
    ∀ j, j ≤ 255 → Rep (mul d (e / 2 ^ (255 - j)) P) (lad a u e j).x2 (lad a u e j).z2 ∧ Rep (mul d (e / 2 ^ (255 - j) + 1) P) (lad a u e j).x3 (lad a u e j).z3
  | 0, _ => by
    rw [Nat.sub_zero, Nat.div_eq_of_lt he]
    refine ⟨⟨?_, fun q => one_ne h q.1⟩, ⟨?_, fun q => one_ne h q.2⟩⟩
    · show (1 : Fin m) * (1 - 1) = 0 * (1 + 1)
      grind
    · rw [mul_one h hP]
      show u * (1 - P.y) = 1 * (1 + P.y)
      rw [hu]; grind
  | j + 1, hj => by
    obtain ⟨r2, r3⟩ := lad_rep h hc ha hP hF hu he j (by omega)
    obtain ⟨k, hk⟩ : ∃ k, e / 2 ^ (255 - j) = k := ⟨_, rfl⟩
    rw [hk] at r2 r3
    have hk2 : e / 2 ^ (254 - j) / 2 = k := by
      rw [Nat.div_div_eq_div_mul, ← Nat.pow_succ, show (254 - j).succ = 255 - j by omega, hk]
    have o2 := mul_on h hP k
    have o3 := mul_on h hP (k + 1)
    have d2 := dbl_rep h hc ha o2 r2
    have d3 := dbl_rep h hc ha o3 r3
    have s := sum_rep h hP o2 o3 rfl hu hF.1 hF.2 r2 r3
    rw [← mul_add h hP] at d2 d3 s
    rw [show 255 - (j + 1) = 254 - j by omega]
    show Rep _ (step a u (e / 2 ^ (254 - j) % 2) (lad a u e j)).x2 _ ∧ _
    have e2 : (lad a u e (j + 1)) = step a u (e / 2 ^ (254 - j) % 2) (lad a u e j) := rfl
    rw [e2]
    generalize e / 2 ^ (254 - j) = K at *
    unfold step
    rcases Nat.mod_two_eq_zero_or_one K with hb | hb
    · rw [if_pos hb, show K = k + k by omega]
      exact ⟨d2, by rw [show k + k + 1 = k + (k + 1) by omega]; exact s⟩
    · rw [if_neg (by omega), show K = k + (k + 1) by omega]
      exact ⟨s, by rw [show k + (k + 1) + 1 = k + 1 + (k + 1) by omega]; exact d3⟩
/-- The ladder comes to so many times the point. -/
theorem lad_mul (h : Cv m d i) {a : Fin m} (hc : d * (a + 1) = -a) (ha : ¬ a + 1 = 0) {P : Pt m} (hP : On d P) (hF : Fine P) {u : Fin m} (hu : u * (1 - P.y) = 1 + P.y) {e : Nat} (he : e < 2 ^ 255) : ladU a u e = uc (mul d e P) := by
  have r := (lad_rep h hc ha hP hF hu he 255 (Nat.le_refl _)).1
  rw [Nat.sub_self, Nat.pow_zero, Nat.div_one] at r
  exact out_rep h r
/-- Both come to one secret. -/
theorem lad_agree (h : Cv m d i) {a : Fin m} (hc : d * (a + 1) = -a) (ha : ¬ a + 1 = 0) {P : Pt m} (hP : On d P) (hF : Fine P) {u : Fin m} (hu : u * (1 - P.y) = 1 + P.y) {e f : Nat} (he : e < 2 ^ 255) (hf : f < 2 ^ 255)
    (he2 : Fine (mul d e P)) (hf2 : Fine (mul d f P)) : ladU a (ladU a u f) e = ladU a (ladU a u e) f := by
  rw [lad_mul h hc ha hP hF hu hf, lad_mul h hc ha hP hF hu he, lad_mul h hc ha (mul_on h hP f) hf2 (uc_eq h hf2) he, lad_mul h hc ha (mul_on h hP e) he2 (uc_eq h he2) hf, mul_turn h hP]
theorem lad_ne (h : Cv m d i) {a : Fin m} (hc : d * (a + 1) = -a) (ha : ¬ a + 1 = 0) {P : Pt m} (hP : On d P) (hF : Fine P) {u : Fin m} (hu : u * (1 - P.y) = 1 + P.y) {e : Nat} (he : e < 2 ^ 255) (he2 : Fine (mul d e P)) : ¬ ladU a u e = 0 := by
  rw [lad_mul h hc ha hP hF hu he]
  exact uc_ne h he2
theorem lad_ne2 (h : Cv m d i) {a : Fin m} (hc : d * (a + 1) = -a) (ha : ¬ a + 1 = 0) {P : Pt m} (hP : On d P) (hF : Fine P) {u : Fin m} (hu : u * (1 - P.y) = 1 + P.y) {e f : Nat} (he : e < 2 ^ 255) (hf : f < 2 ^ 255)
    (hf2 : Fine (mul d f P)) (hef : Fine (mul d (f * e) P)) : ¬ ladU a (ladU a u f) e = 0 := by
  rw [lad_mul h hc ha hP hF hu hf, lad_mul h hc ha (mul_on h hP f) hf2 (uc_eq h hf2) he, mul_mul h hP]
  exact uc_ne h hef
/-- A point of prime order: what is no multiple of the order is fine. -/
theorem fine_of (h : Cv m d i) {a : Fin m} (hc : d * (a + 1) = -a) {P : Pt m} (hP : On d P) {l n : Nat} (hl : Prime l) (hl2 : 2 < l) (h0 : mul d l P = zero) (hF : Fine P) (hn : ¬ l ∣ n) : Fine (mul d n P) := by
  have key : ∀ n, ¬ l ∣ n → ¬ mul d n P = zero := fun n hn e => by
    obtain ⟨r, s, hrs⟩ : ∃ r s, n * r = l * s + 1 := by
      have hf := fermat hl hn
      have hd := Nat.div_add_mod (n ^ (l - 1)) l
      rw [hf] at hd
      refine ⟨n ^ (l - 2), n ^ (l - 1) / l, ?_⟩
      rw [hd, Nat.mul_comm n, ← Nat.pow_succ, show (l - 2).succ = l - 1 by omega]
    have e1 : mul d (n * r) P = zero := by rw [← mul_mul h hP n r, e, mul_zero h]
    rw [hrs] at e1
    have e2 : mul d (l * s + 1) P = P := by
      show add d (mul d (l * s) P) P = P
      rw [← mul_mul h hP l s, h0, mul_zero h, zero_add h hP]
    rw [e2] at e1
    exact hF.1 (by rw [e1]; show (1 : Fin m) - 1 = 0; grind)
  have hQ := mul_on h hP n
  have hx : (mul d n P).y * (mul d n P).y = 1 → (mul d n P).x = 0 := fun hy => by
    have ho : d * (mul d n P).x * (mul d n P).x * (mul d n P).y * (mul d n P).y = (mul d n P).y * (mul d n P).y - (mul d n P).x * (mul d n P).x - 1 := hQ
    generalize (mul d n P).x = x at *
    generalize (mul d n P).y = y at *
    have e1 : x * x = 0 := by clear hQ key h0 hF hP hn; grind
    rcases no_zero h.pr e1 with e | e <;> exact e
  refine ⟨fun hy => key n hn (Pt.eq (hx (by generalize (mul d n P).y = y at *; clear hQ key h0 hF hP hn; grind)) (by show _ = (1 : Fin m); generalize (mul d n P).y = y at *; clear hQ key h0 hF hP hn; grind)), fun hy => ?_⟩
  have hxx := hx (by generalize (mul d n P).y = y at *; clear hQ key h0 hF hP hn; grind)
  refine key (n + n) (fun hd => ?_) ?_
  · rw [show n + n = 2 * n by omega] at hd
    rcases hl.dvd_mul hd with q | q
    · have := Nat.le_of_dvd (by decide) q; omega
    · exact hn q
  · rw [mul_add h hP]
    refine add_is h hQ hQ ?_ ?_
    · rw [hxx]; show _ * (0 : Fin m) = _; grind
    · rw [hxx]; show _ * (1 : Fin m) = _; generalize (mul d n P).y = y at *; clear hQ key h0 hF hP hn hxx hx; grind
end
end Go.Proofs.Ec
