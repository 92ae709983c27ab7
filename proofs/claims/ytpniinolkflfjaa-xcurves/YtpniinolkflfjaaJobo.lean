/-
  A ladder by one coordinate alone, on a twisted Edwards curve over a prime field. Of no program.
-/
import Derived.Test.YtpniinolkflfjaaJobn
namespace Go.Proofs.Ec
open Go.Proofs.Nt
section
variable {m : Nat} [NeZero m] {d i : Fin m}
/-- X and Z say a point, by one coordinate. -/
def Rep (Q : Pt m) (X Z : Fin m) : Prop := X * (1 - Q.y) = Z * (1 + Q.y) ∧ ¬ (X = 0 ∧ Z = 0)
theorem Rep.two (h : Cv m d i) {Q : Pt m} {X Z : Fin m} (r : Rep Q X Z) : 2 * X = (X + Z) * (1 + Q.y) ∧ 2 * Z = (X + Z) * (1 - Q.y) ∧ ¬ X + Z = 0 := by
  obtain ⟨r1, r2⟩ := r
  generalize Q.y = y at *
  refine ⟨by grind, by grind, fun e => r2 ?_⟩
  have e1 : 2 * X = 0 := by grind
  have e2 : X = 0 := (no_zero h.pr e1).resolve_left h.two
  exact ⟨e2, by grind⟩
/-- The doubled one's numbers. -/
def dX (X Z : Fin m) : Fin m := ((X + Z) * (X + Z)) * ((X - Z) * (X - Z))
def dZ (a X Z : Fin m) : Fin m := ((X + Z) * (X + Z) - (X - Z) * (X - Z)) * ((X + Z) * (X + Z) + a * ((X + Z) * (X + Z) - (X - Z) * (X - Z)))
/-- The sum's numbers, of two whose difference is known by u. -/
def sX (X2 Z2 X3 Z3 : Fin m) : Fin m := ((X3 - Z3) * (X2 + Z2) + (X3 + Z3) * (X2 - Z2)) * ((X3 - Z3) * (X2 + Z2) + (X3 + Z3) * (X2 - Z2))
def sZ (u X2 Z2 X3 Z3 : Fin m) : Fin m := u * (((X3 - Z3) * (X2 + Z2) - (X3 + Z3) * (X2 - Z2)) * ((X3 - Z3) * (X2 + Z2) - (X3 + Z3) * (X2 - Z2)))
theorem parts (h : Cv m d i) {Q : Pt m} {X Z : Fin m} (r : Rep Q X Z) : X - Z = (X + Z) * Q.y := by
  obtain ⟨e1, e2, _⟩ := r.two h
  generalize Q.y = y at *
  refine cancel h.pr h.two ?_
  grind
theorem dbl_id {d a μ x y : Fin m} (hc : d * (a + 1) = -a) (ho : d * x * x * y * y = y * y - x * x - 1) {w Y : Fin m} (hw : w = 1 - d * x * x * y * y) (hY : w * Y = y * y + x * x) :
    w * (((μ * μ) * ((μ * y) * (μ * y))) * (1 - Y)) = w * (((μ * μ - (μ * y) * (μ * y)) * (μ * μ + a * (μ * μ - (μ * y) * (μ * y)))) * (1 + Y)) := by
  have e1 : w * (1 - Y) = 2 * (1 - y * y) := by grind
  have e2 : w * (1 + Y) = 2 * (1 + x * x) := by grind
  have e3 : (a + 1) * (1 + d * y * y) * (1 + x * x) = y * y := by grind
  have e4 : μ * μ + a * (μ * μ - (μ * y) * (μ * y)) = μ * μ * ((a + 1) * (1 + d * y * y)) := by grind
  rw [e4]
  have e5 : w * ((μ * μ) * ((μ * y) * (μ * y)) * (1 - Y)) = μ * μ * μ * μ * (y * y) * (w * (1 - Y)) := by grind
  have e6 : w * ((μ * μ - μ * y * (μ * y)) * (μ * μ * ((a + 1) * (1 + d * y * y))) * (1 + Y)) = μ * μ * μ * μ * (1 - y * y) * ((a + 1) * (1 + d * y * y)) * (w * (1 + Y)) := by grind
  rw [e5, e6, e1, e2]
  have e7 : μ * μ * μ * μ * (1 - y * y) * ((a + 1) * (1 + d * y * y)) * (2 * (1 + x * x)) = 2 * (μ * μ * μ * μ) * (1 - y * y) * ((a + 1) * (1 + d * y * y) * (1 + x * x)) := by grind
  rw [e7, e3]
  grind
theorem dbl_rep (h : Cv m d i) {a : Fin m} (hc : d * (a + 1) = -a) (ha : ¬ a + 1 = 0) {Q : Pt m} (hQ : On d Q) {X Z : Fin m} (r : Rep Q X Z) : Rep (add d Q Q) (dX X Z) (dZ a X Z) := by
  obtain ⟨_, _, r3⟩ := r.two h
  have hp := parts h r
  have hy := add_y h hQ hQ
  have hw := den_sub h hQ hQ
  have ho : d * Q.x * Q.x * Q.y * Q.y = Q.y * Q.y - Q.x * Q.x - 1 := hQ
  unfold dX dZ
  rw [hp]
  refine ⟨cancel h.pr hw (dbl_id hc ho rfl hy), fun ⟨e1, e2⟩ => ?_⟩
  have e3 : Q.y = 0 := by
    have h1 := (no_zero h.pr e1).resolve_left (mul_ne h.pr r3 r3)
    have h2 : (X + Z) * Q.y = 0 := by
      rcases no_zero h.pr h1 with e | e <;> exact e
    exact (no_zero h.pr h2).resolve_left r3
  rw [e3] at e2
  have e4 : ((X + Z) * (X + Z)) * ((X + Z) * (X + Z)) * (a + 1) = 0 := by
    generalize X + Z = μ at *
    grind
  exact mul_ne h.pr (mul_ne h.pr (mul_ne h.pr r3 r3) (mul_ne h.pr r3 r3)) ha e4
theorem id_diff (d x1 y1 x2 y2 : Fin m) (h1 : d*x1*x1*y1*y1 = (y1*y1 - x1*x1 - 1)) (h2 : d*x2*x2*y2*y2 = (y2*y2 - x2*x2 - 1)) :
  ((1 - d*x1*x2*y1*y2) + (y1*y2+x1*x2)) * ((1 + d*x1*x2*y1*y2) + (y1*y2-x1*x2)) * ((y1-y2)*(y1-y2)) = ((1 - d*x1*x2*y1*y2) - (y1*y2+x1*x2)) * ((1 + d*x1*x2*y1*y2) - (y1*y2-x1*x2)) * ((y1+y2)*(y1+y2)) := by grind
/-- The sum and the difference of two points, by one coordinate. -/
theorem sum_diff (h : Cv m d i) {P Q : Pt m} (hP : On d P) (hQ : On d Q) :
    (1 + (add d P Q).y) * (1 + (add d (neg P) Q).y) * ((P.y - Q.y) * (P.y - Q.y)) = (1 - (add d P Q).y) * (1 - (add d (neg P) Q).y) * ((P.y + Q.y) * (P.y + Q.y)) := by
  have hd := id_diff d P.x P.y Q.x Q.y hP hQ
  have hy := add_y h hP hQ
  have hz := add_y h (neg_on hP) hQ
  have c1 := den_sub h hP hQ
  have c2 := den_sub h (neg_on hP) hQ
  have e1 : (neg P).y * Q.y + (neg P).x * Q.x = P.y * Q.y - P.x * Q.x := by show P.y * Q.y + -P.x * Q.x = _; grind
  have e2 : 1 - d * (neg P).x * Q.x * (neg P).y * Q.y = 1 + d * P.x * Q.x * P.y * Q.y := by show 1 - d * -P.x * Q.x * P.y * Q.y = _; grind
  rw [e1, e2] at hz
  rw [e2] at c2
  generalize (add d P Q).y = Y at *
  generalize (add d (neg P) Q).y = W at *
  generalize 1 - d * P.x * Q.x * P.y * Q.y = u at *
  generalize 1 + d * P.x * Q.x * P.y * Q.y = v at *
  rw [← hy, ← hz] at hd
  refine cancel h.pr (mul_ne h.pr c1 c2) ?_
  clear e1 e2 hy hz c1 c2 hP hQ
  grind
theorem first_zero {a b : Fin m} (h1 : a + b = 0) (h2 : b = 0) : a = 0 := by grind
theorem neg_den (d x1 x2 y1 y2 : Fin m) : 1 - d * -x1 * x2 * y1 * y2 = 1 + d * x1 * x2 * y1 * y2 := by grind
theorem neg_num (x1 x2 y1 y2 : Fin m) : y1 * y2 + -x1 * x2 = y1 * y2 - x1 * x2 := by grind
theorem at_nought {d x2 x3 yP : Fin m} (h1 : d * x2 * x2 * 0 * 0 = 0 * 0 - x2 * x2 - 1) (h2 : d * x3 * x3 * 0 * 0 = 0 * 0 - x3 * x3 - 1) (h3 : (1 + d * x2 * x3 * 0 * 0) * yP = 0 * 0 - x2 * x3) : (1 - yP) * (1 + yP) = 0 := by grind
theorem sum_rep (h : Cv m d i) {P Q R : Pt m} (hP : On d P) (hQ : On d Q) (hR : On d R) (e : add d Q P = R) {u X2 Z2 X3 Z3 : Fin m} (hu : u * (1 - P.y) = 1 + P.y) (n1 : ¬ 1 - P.y = 0) (n2 : ¬ 1 + P.y = 0)
    (r2 : Rep Q X2 Z2) (r3 : Rep R X3 Z3) : Rep (add d Q R) (sX X2 Z2 X3 Z3) (sZ u X2 Z2 X3 Z3) := by
  have eP : add d (neg Q) R = P := by
    rw [← e, ← add_assoc h (neg_on hQ) hQ hP, add_comm (neg Q) Q, add_neg h hQ, zero_add h hP]
  have hsd := sum_diff h hQ hR
  have hzn := add_y h (neg_on hQ) hR
  rw [eP] at hsd hzn
  obtain ⟨_, _, μ0⟩ := r2.two h
  obtain ⟨_, _, ν0⟩ := r3.two h
  have p2 := parts h r2
  have p3 := parts h r3
  unfold sX sZ
  rw [p2, p3]
  have hk : ¬ (X3 + Z3) * (X2 + Z2) = 0 := mul_ne h.pr ν0 μ0
  have hQo : d * Q.x * Q.x * Q.y * Q.y = Q.y * Q.y - Q.x * Q.x - 1 := hQ
  have hRo : d * R.x * R.x * R.y * R.y = R.y * R.y - R.x * R.x - 1 := hR
  have hz2 : (1 + d * Q.x * R.x * Q.y * R.y) * P.y = Q.y * R.y - Q.x * R.x := by
    have : (1 - d * (neg Q).x * R.x * (neg Q).y * R.y) * P.y = (neg Q).y * R.y + (neg Q).x * R.x := hzn
    have e1 : (neg Q).x = -Q.x := rfl
    have e2 : (neg Q).y = Q.y := rfl
    rw [e1, e2, neg_den, neg_num] at this
    exact this
  unfold Rep
  clear p2 p3 r2 r3 hzn eP e μ0 ν0
  generalize (add d Q R).y = Y at *
  generalize Q.y = y2 at *
  generalize R.y = y3 at *
  generalize P.y = yP at *
  generalize X2 + Z2 = μ at *
  generalize X3 + Z3 = ν at *
  have f1 : (ν * y3 * μ + ν * (μ * y2)) * (ν * y3 * μ + ν * (μ * y2)) = (ν * μ) * (ν * μ) * ((y2 + y3) * (y2 + y3)) := by grind
  have f2 : u * ((ν * y3 * μ - ν * (μ * y2)) * (ν * y3 * μ - ν * (μ * y2))) = (ν * μ) * (ν * μ) * (u * ((y2 - y3) * (y2 - y3))) := by grind
  rw [f1, f2]
  have hkk := mul_ne h.pr hk hk
  refine ⟨?_, fun ⟨e1, e2⟩ => ?_⟩
  · refine cancel h.pr n1 ?_
    generalize (ν * μ) * (ν * μ) = κ at *
    have g1 : (1 - yP) * (κ * ((y2 + y3) * (y2 + y3)) * (1 - Y)) = κ * ((1 - Y) * (1 - yP) * ((y2 + y3) * (y2 + y3))) := by grind
    have g2 : (1 - yP) * (κ * (u * ((y2 - y3) * (y2 - y3))) * (1 + Y)) = κ * ((1 + Y) * (u * (1 - yP)) * ((y2 - y3) * (y2 - y3))) := by grind
    rw [g1, g2, hu, hsd]
  · have a1 := (no_zero h.pr e1).resolve_left hkk
    have a2 := (no_zero h.pr e2).resolve_left hkk
    have b1 : y2 + y3 = 0 := by rcases no_zero h.pr a1 with q | q <;> exact q
    have u0 : ¬ u = 0 := fun q => n2 (by rw [← hu, q]; grind)
    have a3 := (no_zero h.pr a2).resolve_left u0
    have b2 : y2 - y3 = 0 := by rcases no_zero h.pr a3 with q | q <;> exact q
    have z3 : y3 = 0 := halves h b1 b2
    have z2 : y2 = 0 := first_zero b1 z3
    subst z3
    subst z2
    exact mul_ne h.pr n1 n2 (at_nought hQo hRo hz2)
end
end Go.Proofs.Ec
