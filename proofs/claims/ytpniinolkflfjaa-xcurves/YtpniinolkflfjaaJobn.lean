/-
  A twisted Edwards curve over a prime field whose law is complete: its points, and their sum. Of no program.
-/
import Derived.Test.YtpniinolkflfjaaJoai
namespace Go.Proofs.Ec
open Go.Proofs.Nt
structure Pt (m : Nat) where
  x : Fin m
  y : Fin m
theorem Pt.eq {m : Nat} {P Q : Pt m} (h1 : P.x = Q.x) (h2 : P.y = Q.y) : P = Q := by
  cases P; cases Q
  simp only at h1 h2
  rw [h1, h2]
section
variable {m : Nat} [NeZero m]
theorem zero_val : (0 : Fin m).val = 0 := by simp
theorem no_zero (hp : Prime m) {a b : Fin m} (h : a * b = 0) : a = 0 ∨ b = 0 := by
  have hv : a.val * b.val % m = 0 := by
    have := congrArg Fin.val h
    rwa [Fin.val_mul, zero_val] at this
  rcases hp.dvd_mul (Nat.dvd_of_mod_eq_zero hv) with h1 | h1
  · left
    exact Fin.ext (by rw [zero_val]; exact Nat.eq_zero_of_dvd_of_lt h1 a.isLt)
  · right
    exact Fin.ext (by rw [zero_val]; exact Nat.eq_zero_of_dvd_of_lt h1 b.isLt)
theorem cancel (hp : Prime m) {a b c : Fin m} (h0 : ¬ a = 0) (h : a * b = a * c) : b = c := by
  have h1 : a * (b - c) = 0 := by grind
  rcases no_zero hp h1 with h2 | h2
  · exact absurd h2 h0
  · grind
theorem mul_ne (hp : Prime m) {a b : Fin m} (ha : ¬ a = 0) (hb : ¬ b = 0) : ¬ a * b = 0 := fun h => by
  rcases no_zero hp h with h | h
  · exact ha h
  · exact hb h
/-- What is 1 with a number, if it is not 0. -/
def iv (a : Fin m) : Fin m := Fin.ofNat m (a.val ^ (m - 2))
theorem iv_mul (hp : Prime m) {a : Fin m} (h0 : ¬ a = 0) : a * iv a = 1 := by
  have h2 := hp.1
  have hpos : 0 < a.val := by
    rcases Nat.eq_zero_or_pos a.val with h | h
    · exact absurd (Fin.ext (by rw [zero_val]; exact h)) h0
    · exact h
  apply Fin.ext
  show a.val * (a.val ^ (m - 2) % m) % m = 1 % m
  rw [inv_pow hp hpos a.isLt, Nat.mod_eq_of_lt (by omega)]
/-- A curve whose law is complete: -1 is the square of i, d is no square. -/
structure Cv (m : Nat) [NeZero m] (d i : Fin m) : Prop where
  pr : Prime m
  two : ¬ (2 : Fin m) = 0
  sq : i * i = -1
  non : ∀ s : Fin m, ¬ s * s = d
def On (d : Fin m) (P : Pt m) : Prop := d * P.x * P.x * P.y * P.y = P.y * P.y - P.x * P.x - 1
variable {d i : Fin m}
theorem one_ne (h : Cv m d i) : ¬ (1 : Fin m) = 0 := fun e => by
  have := h.pr.1
  have := congrArg Fin.val e
  rw [zero_val] at this
  have e1 : (1 : Fin m).val = 1 % m := by rfl
  rw [e1, Nat.mod_eq_of_lt (by omega)] at this
  omega
theorem square_no (h : Cv m d i) {r s : Fin m} (e : r * r = d * (s * s)) : s = 0 := by
  refine Classical.byContradiction fun hs => ?_
  have hi := iv_mul h.pr hs
  generalize iv s = t at hi
  exact h.non (r * t) (by grind)
theorem halves (h : Cv m d i) {a b : Fin m} (h1 : a + b = 0) (h2 : a - b = 0) : b = 0 := by
  have h3 : 2 * b = 0 := by grind
  rcases no_zero h.pr h3 with e | e
  · exact absurd e h.two
  · exact e
theorem id_one (d i x1 y1 x2 y2 ε : Fin m) (h1 : d*x1*x1*y1*y1 = y1*y1 - x1*x1 - 1) (h2 : d*x2*x2*y2*y2 = y2*y2 - x2*x2 - 1) (hi : i * i = -1) (hε : ε * ε = 1) (hD : d*x1*x2*y1*y2 = ε) :
    (i * x1 + ε * y1) * (i * x1 + ε * y1) = d * ((x1 * y1 * (i * x2 + y2)) * (x1 * y1 * (i * x2 + y2))) := by
  have e1 : d*x1*x1*y1*y1 * (i*i*x2*x2 + y2*y2) = y1*y1 - x1*x1 := by
    have : d*x1*x1*y1*y1 * (d*x2*x2*y2*y2) = 1 := by rw [← hε, ← hD]; grind
    grind
  have e2 : d * ((x1 * y1 * (i * x2 + y2)) * (x1 * y1 * (i * x2 + y2))) = d*x1*x1*y1*y1 * (i*i*x2*x2 + y2*y2) + 2 * i * x1 * y1 * (d*x1*x2*y1*y2) := by grind
  rw [e2, e1, hD]
  grind
theorem complete (h : Cv m d i) {x1 y1 x2 y2 ε : Fin m} (h1 : d*x1*x1*y1*y1 = y1*y1 - x1*x1 - 1) (h2 : d*x2*x2*y2*y2 = y2*y2 - x2*x2 - 1) (hε : ε * ε = 1) : ¬ d*x1*x2*y1*y2 = ε := fun hD => by
  have h0 : ¬ ε = 0 := fun e => one_ne h (by rw [← hε, e]; grind)
  have s1 := square_no h (id_one d i x1 y1 x2 y2 ε h1 h2 h.sq hε hD)
  have s2 := square_no h (id_one d i x1 y1 (-x2) y2 (-ε) h1 (by grind) h.sq (by grind) (by grind))
  have hxy : ¬ x1 * y1 = 0 := fun e => h0 (by rw [← hD]; grind)
  have t1 : i * x2 + y2 = 0 := (no_zero h.pr s1).resolve_left hxy
  have t2 : i * -x2 + y2 = 0 := (no_zero h.pr s2).resolve_left hxy
  have hy : y2 = 0 := halves h (a := i * x2) (b := y2) t1 (by grind)
  exact h0 (by rw [← hD, hy]; grind)
theorem den_add (h : Cv m d i) {P Q : Pt m} (hP : On d P) (hQ : On d Q) : ¬ 1 + d*P.x*Q.x*P.y*Q.y = 0 := fun e =>
  complete h hP hQ (ε := -1) (by grind) (by grind)
theorem den_sub (h : Cv m d i) {P Q : Pt m} (hP : On d P) (hQ : On d Q) : ¬ 1 - d*P.x*Q.x*P.y*Q.y = 0 := fun e =>
  complete h hP hQ (ε := 1) (by grind) (by grind)
/-- The sum of two points. -/
def add (d : Fin m) (P Q : Pt m) : Pt m := ⟨(P.x*Q.y + P.y*Q.x) * iv (1 + d*P.x*Q.x*P.y*Q.y), (P.y*Q.y + P.x*Q.x) * iv (1 - d*P.x*Q.x*P.y*Q.y)⟩
theorem add_x (h : Cv m d i) {P Q : Pt m} (hP : On d P) (hQ : On d Q) : (1 + d*P.x*Q.x*P.y*Q.y) * (add d P Q).x = P.x*Q.y + P.y*Q.x := by
  have := iv_mul h.pr (den_add h hP hQ)
  show (1 + d*P.x*Q.x*P.y*Q.y) * ((P.x*Q.y + P.y*Q.x) * iv (1 + d*P.x*Q.x*P.y*Q.y)) = _
  generalize iv (1 + d*P.x*Q.x*P.y*Q.y) = t at *
  grind
theorem add_y (h : Cv m d i) {P Q : Pt m} (hP : On d P) (hQ : On d Q) : (1 - d*P.x*Q.x*P.y*Q.y) * (add d P Q).y = P.y*Q.y + P.x*Q.x := by
  have := iv_mul h.pr (den_sub h hP hQ)
  show (1 - d*P.x*Q.x*P.y*Q.y) * ((P.y*Q.y + P.x*Q.x) * iv (1 - d*P.x*Q.x*P.y*Q.y)) = _
  generalize iv (1 - d*P.x*Q.x*P.y*Q.y) = t at *
  grind
end
end Go.Proofs.Ec
/-
  A twisted Edwards curve over a prime field: its points are a group; so many times a point. Of no program.
-/
namespace Go.Proofs.Ec
open Go.Proofs.Nt
section
variable {m : Nat} [NeZero m] {d i : Fin m}
theorem id_closed (d x1 y1 x2 y2 : Fin m) (h1 : d*x1*x1*y1*y1 = y1*y1 - x1*x1 - 1) (h2 : d*x2*x2*y2*y2 = y2*y2 - x2*x2 - 1) :
    (y1*y2+x1*x2)*(y1*y2+x1*x2)*((1 + d*x1*x2*y1*y2)*(1 + d*x1*x2*y1*y2)) - (x1*y2+y1*x2)*(x1*y2+y1*x2)*((1 - d*x1*x2*y1*y2)*(1 - d*x1*x2*y1*y2)) = (1 + d*x1*x2*y1*y2)*(1 + d*x1*x2*y1*y2)*((1 - d*x1*x2*y1*y2)*(1 - d*x1*x2*y1*y2)) + d*((x1*y2+y1*x2)*(x1*y2+y1*x2))*((y1*y2+x1*x2)*(y1*y2+x1*x2)) := by grind
theorem add_on (h : Cv m d i) {P Q : Pt m} (hP : On d P) (hQ : On d Q) : On d (add d P Q) := by
  have hx := add_x h hP hQ
  have hy := add_y h hP hQ
  have c1 := den_add h hP hQ
  have c2 := den_sub h hP hQ
  have hc := id_closed d P.x P.y Q.x Q.y hP hQ
  show d * (add d P Q).x * (add d P Q).x * (add d P Q).y * (add d P Q).y = (add d P Q).y * (add d P Q).y - (add d P Q).x * (add d P Q).x - 1
  generalize (add d P Q).x = X at *
  generalize (add d P Q).y = Y at *
  generalize 1 + d*P.x*Q.x*P.y*Q.y = u at *
  generalize 1 - d*P.x*Q.x*P.y*Q.y = v at *
  rw [← hx, ← hy] at hc
  have huv : ¬ (u * v) * (u * v) = 0 := mul_ne h.pr (mul_ne h.pr c1 c2) (mul_ne h.pr c1 c2)
  refine cancel h.pr huv ?_
  clear hx hy c1 c2 huv hP hQ
  grind
/-- The neutral point, and the point on the other side. -/
def zero : Pt m := ⟨0, 1⟩
def neg (P : Pt m) : Pt m := ⟨-P.x, P.y⟩
theorem zero_on : On d (zero : Pt m) := by
  show d * 0 * 0 * 1 * 1 = 1 * 1 - 0 * 0 - (1 : Fin m)
  grind
theorem neg_on {P : Pt m} (hP : On d P) : On d (neg P) := by
  show d * -P.x * -P.x * P.y * P.y = P.y * P.y - -P.x * -P.x - 1
  have : d * P.x * P.x * P.y * P.y = P.y * P.y - P.x * P.x - 1 := hP
  grind
theorem add_comm (P Q : Pt m) : add d P Q = add d Q P := by
  unfold add
  rw [show d*P.x*Q.x*P.y*Q.y = d*Q.x*P.x*Q.y*P.y by grind]
  exact Pt.eq (by show _ * _ = _ * _; congr 1; grind) (by show _ * _ = _ * _; congr 1; grind)
/-- A point is told by the two products. -/
theorem add_is (h : Cv m d i) {P Q R : Pt m} (hP : On d P) (hQ : On d Q) (hx : (1 + d*P.x*Q.x*P.y*Q.y) * R.x = P.x*Q.y + P.y*Q.x) (hy : (1 - d*P.x*Q.x*P.y*Q.y) * R.y = P.y*Q.y + P.x*Q.x) : add d P Q = R :=
  Pt.eq (cancel h.pr (den_add h hP hQ) (by rw [add_x h hP hQ, hx])) (cancel h.pr (den_sub h hP hQ) (by rw [add_y h hP hQ, hy]))
theorem zero_add (h : Cv m d i) {P : Pt m} (hP : On d P) : add d zero P = P :=
  add_is h zero_on hP (by show (1 + d * 0 * P.x * 1 * P.y) * P.x = 0 * P.y + 1 * P.x; grind) (by show (1 - d * 0 * P.x * 1 * P.y) * P.y = 1 * P.y + 0 * P.x; grind)
theorem add_neg (h : Cv m d i) {P : Pt m} (hP : On d P) : add d P (neg P) = zero :=
  add_is h hP (neg_on hP) (by show (1 + d * P.x * -P.x * P.y * P.y) * 0 = P.x * P.y + P.y * -P.x; grind)
    (by show (1 - d * P.x * -P.x * P.y * P.y) * 1 = P.y * P.y + P.x * -P.x; have : d * P.x * P.x * P.y * P.y = P.y * P.y - P.x * P.x - 1 := hP; grind)
theorem id_x (d x1 y1 x2 y2 x3 y3 : Fin m) (h1 : d*x1*x1*y1*y1 = y1*y1 - x1*x1 - 1) (h2 : d*x2*x2*y2*y2 = y2*y2 - x2*x2 - 1) (h3 : d*x3*x3*y3*y3 = y3*y3 - x3*x3 - 1) :
    ((x1*y2+y1*x2)*y3*(1 - d*x1*x2*y1*y2) + (y1*y2+x1*x2)*x3*(1 + d*x1*x2*y1*y2)) * ((1 + d*x2*x3*y2*y3) * (1 - d*x2*x3*y2*y3) + d*x1*y1*(x2*y3+y2*x3)*(y2*y3+x2*x3)) =
    ((x2*y3+y2*x3)*y1*(1 - d*x2*x3*y2*y3) + (y2*y3+x2*x3)*x1*(1 + d*x2*x3*y2*y3)) * ((1 + d*x1*x2*y1*y2) * (1 - d*x1*x2*y1*y2) + d*x3*y3*(x1*y2+y1*x2)*(y1*y2+x1*x2)) := by grind
theorem id_y (d x1 y1 x2 y2 x3 y3 : Fin m) (h1 : d*x1*x1*y1*y1 = y1*y1 - x1*x1 - 1) (h2 : d*x2*x2*y2*y2 = y2*y2 - x2*x2 - 1) (h3 : d*x3*x3*y3*y3 = y3*y3 - x3*x3 - 1) :
    ((y1*y2+x1*x2)*y3*(1 + d*x1*x2*y1*y2) + (x1*y2+y1*x2)*x3*(1 - d*x1*x2*y1*y2)) * ((1 + d*x2*x3*y2*y3) * (1 - d*x2*x3*y2*y3) - d*x1*y1*(x2*y3+y2*x3)*(y2*y3+x2*x3)) =
    ((y2*y3+x2*x3)*y1*(1 + d*x2*x3*y2*y3) + (x2*y3+y2*x3)*x1*(1 - d*x2*x3*y2*y3)) * ((1 + d*x1*x2*y1*y2) * (1 - d*x1*x2*y1*y2) - d*x3*y3*(x1*y2+y1*x2)*(y1*y2+x1*x2)) := by grind
/-- The last step: two quotients are the same. -/
theorem same_x (hp : Prime m) {d x1 y1 x3 y3 u v u' v' X4 Y4 X5 Y5 A B A' B' L R : Fin m} (hu : ¬ u = 0) (hv : ¬ v = 0) (hu' : ¬ u' = 0) (hv' : ¬ v' = 0)
    (a1 : u * X4 = A) (a2 : v * Y4 = B) (a3 : u' * X5 = A') (a4 : v' * Y5 = B') (nl : ¬ 1 + d*X4*x3*Y4*y3 = 0) (nr : ¬ 1 + d*x1*X5*y1*Y5 = 0)
    (hL : (1 + d*X4*x3*Y4*y3) * L = X4*y3 + Y4*x3) (hR : (1 + d*x1*X5*y1*Y5) * R = x1*Y5 + y1*X5)
    (e : (A*y3*v + B*x3*u) * (u'*v' + d*x1*y1*A'*B') = (A'*y1*v' + B'*x1*u') * (u*v + d*x3*y3*A*B)) : L = R := by
  have e1 : (u*v) * (X4*y3 + Y4*x3) = A*y3*v + B*x3*u := by rw [← a1, ← a2]; grind
  have e2 : (u'*v') * (x1*Y5 + y1*X5) = A'*y1*v' + B'*x1*u' := by rw [← a3, ← a4]; grind
  have e3 : (u*v) * (1 + d*X4*x3*Y4*y3) = u*v + d*x3*y3*A*B := by rw [← a1, ← a2]; grind
  have e4 : (u'*v') * (1 + d*x1*X5*y1*Y5) = u'*v' + d*x1*y1*A'*B' := by rw [← a3, ← a4]; grind
  rw [← e1, ← e2, ← e3, ← e4, ← hL, ← hR] at e
  generalize 1 + d*X4*x3*Y4*y3 = p at *
  generalize 1 + d*x1*X5*y1*Y5 = q at *
  have hk : ¬ (u*v) * (u'*v') * (p * q) = 0 := mul_ne hp (mul_ne hp (mul_ne hp hu hv) (mul_ne hp hu' hv')) (mul_ne hp nl nr)
  refine cancel hp hk ?_
  clear hk hL hR e1 e2 e3 e4 a1 a2 a3 a4
  grind
theorem same_y (hp : Prime m) {d x1 y1 x3 y3 u v u' v' X4 Y4 X5 Y5 A B A' B' L R : Fin m} (hu : ¬ u = 0) (hv : ¬ v = 0) (hu' : ¬ u' = 0) (hv' : ¬ v' = 0)
    (a1 : u * X4 = A) (a2 : v * Y4 = B) (a3 : u' * X5 = A') (a4 : v' * Y5 = B') (nl : ¬ 1 - d*X4*x3*Y4*y3 = 0) (nr : ¬ 1 - d*x1*X5*y1*Y5 = 0)
    (hL : (1 - d*X4*x3*Y4*y3) * L = Y4*y3 + X4*x3) (hR : (1 - d*x1*X5*y1*Y5) * R = y1*Y5 + x1*X5)
    (e : (B*y3*u + A*x3*v) * (u'*v' - d*x1*y1*A'*B') = (B'*y1*u' + A'*x1*v') * (u*v - d*x3*y3*A*B)) : L = R := by
  have e1 : (u*v) * (Y4*y3 + X4*x3) = B*y3*u + A*x3*v := by rw [← a1, ← a2]; grind
  have e2 : (u'*v') * (y1*Y5 + x1*X5) = B'*y1*u' + A'*x1*v' := by rw [← a3, ← a4]; grind
  have e3 : (u*v) * (1 - d*X4*x3*Y4*y3) = u*v - d*x3*y3*A*B := by rw [← a1, ← a2]; grind
  have e4 : (u'*v') * (1 - d*x1*X5*y1*Y5) = u'*v' - d*x1*y1*A'*B' := by rw [← a3, ← a4]; grind
  rw [← e1, ← e2, ← e3, ← e4, ← hL, ← hR] at e
  generalize 1 - d*X4*x3*Y4*y3 = p at *
  generalize 1 - d*x1*X5*y1*Y5 = q at *
  have hk : ¬ (u*v) * (u'*v') * (p * q) = 0 := mul_ne hp (mul_ne hp (mul_ne hp hu hv) (mul_ne hp hu' hv')) (mul_ne hp nl nr)
  refine cancel hp hk ?_
  clear hk hL hR e1 e2 e3 e4 a1 a2 a3 a4
  grind
theorem add_assoc (h : Cv m d i) {P Q R : Pt m} (hP : On d P) (hQ : On d Q) (hR : On d R) : add d (add d P Q) R = add d P (add d Q R) := by
  have oL := add_on h hP hQ
  have oR := add_on h hQ hR
  have ex := id_x d P.x P.y Q.x Q.y R.x R.y hP hQ hR
  have ey := id_y d P.x P.y Q.x Q.y R.x R.y hP hQ hR
  exact Pt.eq
    (same_x h.pr (den_add h hP hQ) (den_sub h hP hQ) (den_add h hQ hR) (den_sub h hQ hR) (add_x h hP hQ) (add_y h hP hQ) (add_x h hQ hR) (add_y h hQ hR) (den_add h oL hR) (den_add h hP oR) (add_x h oL hR) (add_x h hP oR) ex)
    (same_y h.pr (den_add h hP hQ) (den_sub h hP hQ) (den_add h hQ hR) (den_sub h hQ hR) (add_x h hP hQ) (add_y h hP hQ) (add_x h hQ hR) (add_y h hQ hR) (den_sub h oL hR) (den_sub h hP oR) (add_y h oL hR) (add_y h hP oR) ey)
/-- So many times a point. -/
def mul (d : Fin m) : Nat → Pt m → Pt m
  | 0, _ => zero
  | n + 1, P => add d (mul d n P) P
theorem mul_on (h : Cv m d i) {P : Pt m} (hP : On d P) : ∀ n, On d (mul d n P)
  | 0 => zero_on
  | n + 1 => add_on h (mul_on h hP n) hP
theorem mul_add (h : Cv m d i) {P : Pt m} (hP : On d P) (a : Nat) : ∀ b, mul d (a + b) P = add d (mul d a P) (mul d b P)
  | 0 => by show mul d a P = add d (mul d a P) zero; rw [add_comm, zero_add h (mul_on h hP a)]
  | b + 1 => by
    show add d (mul d (a + b) P) P = add d (mul d a P) (add d (mul d b P) P)
    rw [mul_add h hP a b, add_assoc h (mul_on h hP a) (mul_on h hP b) hP]
theorem mul_zero (h : Cv m d i) : ∀ n, mul d n (zero : Pt m) = zero
  | 0 => rfl
  | n + 1 => by show add d (mul d n zero) zero = zero; rw [mul_zero h n, zero_add h zero_on]
theorem mul_mul (h : Cv m d i) {P : Pt m} (hP : On d P) (a : Nat) : ∀ b, mul d b (mul d a P) = mul d (a * b) P
  | 0 => rfl
  | b + 1 => by
    show add d (mul d b (mul d a P)) (mul d a P) = _
    rw [mul_mul h hP a b, Nat.mul_add, Nat.mul_one, mul_add h hP (a * b) a]
theorem mul_one (h : Cv m d i) {P : Pt m} (hP : On d P) : mul d 1 P = P := zero_add h hP
/-- Two ways to so many times so many. -/
theorem mul_turn (h : Cv m d i) {P : Pt m} (hP : On d P) (a b : Nat) : mul d a (mul d b P) = mul d b (mul d a P) := by
  rw [mul_mul h hP, mul_mul h hP, Nat.mul_comm]
end
end Go.Proofs.Ec
