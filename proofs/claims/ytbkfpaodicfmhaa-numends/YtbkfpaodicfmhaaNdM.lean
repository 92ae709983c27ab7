/-
  The developers' numbers: what a word taken out leaves, modulo the prime.
-/
import Derived.Test.YtbkfpaodicfmhaaNdL
namespace Go.Proofs.Nd
open Go.RowKit
open Go.Proofs.Nt
open Go.Proofs.Nu (nmL nmA nmV lt8 nmA_get nmA_congr nmA_one nmA_size results_row_slot B8 b8 nv8 nmA_lb nv_lt8 md mP mN mX md_lt)
theorem nv_swap {d : Nat → Nat} {k v : Nat} : ∀ n, k < n → nv (fun i => if i = k then v else d i) n + d k * 2 ^ (32 * k) = nv d n + v * 2 ^ (32 * k)
  | 0, h => absurd h (by omega)
  | n + 1, h => by
    show nv (fun i => if i = k then v else d i) n + (if n = k then v else d n) * 2 ^ (32 * n) + d k * 2 ^ (32 * k) = nv d n + d n * 2 ^ (32 * n) + v * 2 ^ (32 * k)
    by_cases e : n = k
    · subst e
      rw [if_pos rfl, nv_congr n (e := d) fun i hi => if_neg (by omega)]; omega
    · have ih := nv_swap (d := d) (k := k) (v := v) n (by omega)
      rw [if_neg e]; omega
/-- A prime, and what 2^256 is modulo it. -/
structure Good (p v : Nat) : Prop where
  lt : p < B8
  one : 1 < p
  rest : ∃ q, B8 = v + p * q
  small : v * 4294967296 ≤ B8
theorem Good.v_lt {p v : Nat} (h : Good p v) : v < B8 := by
  have := h.small
  have hB : 0 < B8 := by decide
  generalize B8 = K at *
  omega
/-- What a word taken out leaves. -/
def Fo (p o : Nat) (t t' : Nat → Nat) : Prop := (∀ i, t' i < 4294967296) ∧ t' (o + 8) = 0 ∧ (∀ i, o + 9 ≤ i → t' i = t i) ∧ nv t' 16 % p = nv t 16 % p
theorem two_o (o : Nat) : 2 ^ (32 * (o + 8)) = B8 * 2 ^ (32 * o) := by
  rw [b8, ← Nat.pow_add]; congr 1; omega
theorem mod_back {p a b k : Nat} (h : b = a + p * k) : a % p = b % p := by rw [h, Nat.add_mul_mod_self_left]
/-- The value behind the first step. -/
theorem fo1_val {p v o : Nat} {t : Nat → Nat} (hG : Good p v) (ho : o < 8) : ∃ k, nv t 16 = nv (fo1 t o v) 16 + p * k := by
  obtain ⟨q, hq⟩ := hG.rest
  have hv1 := wa_val (t (o + 8)) (lb v) t o 16 (by omega)
  rw [nv8 hG.v_lt] at hv1
  have hs1 := nv_swap (d := wa (t (o + 8)) (lb v) t o) (k := o + 8) (v := wc (t (o + 8)) (lb v) t o) 16 (by omega)
  rw [wa_off (o + 8) (Nat.le_refl _)] at hs1
  change nv (fo1 t o v) 16 + _ = _ at hs1
  rw [two_o] at hv1 hs1
  refine ⟨t (o + 8) * q * 2 ^ (32 * o), ?_⟩
  generalize t (o + 8) = f at *
  generalize wc f (lb v) t o = c at *
  generalize nv (wa f (lb v) t o) 16 = A at *
  generalize nv (fo1 t o v) 16 = F at *
  generalize nv t 16 = X at *
  have e1 : F + f * (B8 * 2 ^ (32 * o)) = X + f * v * 2 ^ (32 * o) := by omega
  rw [hq, Nat.add_mul, Nat.mul_add, ← Nat.mul_assoc] at e1
  have e2 : p * (f * q * 2 ^ (32 * o)) = f * (p * q * 2 ^ (32 * o)) := by
    rw [← Nat.mul_assoc, ← Nat.mul_assoc, ← Nat.mul_assoc, ← Nat.mul_assoc, Nat.mul_comm p f]
  rw [e2]
  omega
/-- A carry is 1, and a second one is not. -/
theorem carry_one {f v s a c a2 c2 K : Nat} (hf : f < 4294967296) (hv : v * 4294967296 ≤ K) (hs : s < K) (h1 : a + c * K = f * v + s) (h2 : a2 + c2 * K = 1 * v + a) (h0 : ¬ c = 0) : c = 1 ∧ c2 = 0 := by
  have e1 : f * v + v ≤ v * 4294967296 := by
    have := Nat.mul_le_mul_left v (show f + 1 ≤ 4294967296 by omega)
    rw [Nat.mul_add, Nat.mul_one, Nat.mul_comm v f] at this
    exact this
  have hc : c = 1 := by
    rcases Nat.lt_or_ge c 2 with h | h
    · omega
    · have := Nat.mul_le_mul_right K h; omega
  subst hc
  refine ⟨rfl, ?_⟩
  rcases Nat.eq_zero_or_pos c2 with h | h
  · exact h
  · have := Nat.mul_le_mul_right K h; omega
theorem fo_one {p v o : Nat} {t : Nat → Nat} (hG : Good p v) (ho : o < 8) (ht : ∀ i, t i < 4294967296) (hc : wc (t (o + 8)) (lb v) t o = 0) : Fo p o t (fo1 t o v) := by
  obtain ⟨k, hk⟩ := fo1_val (t := t) hG ho
  refine ⟨fo1_lt ht, ?_, fun i hi => ?_, mod_back hk⟩
  · unfold fo1; rw [if_pos rfl]; exact hc
  · unfold fo1; rw [if_neg (by omega)]; exact wa_off i (by omega)
theorem fo_two {p v o : Nat} {t : Nat → Nat} (hG : Good p v) (ho : o < 8) (ht : ∀ i, t i < 4294967296) (hc : ¬ wc (t (o + 8)) (lb v) t o = 0) : Fo p o t (wa 1 (lb v) (fo2 t o v) o) := by
  obtain ⟨k, hk⟩ := fo1_val (t := t) hG ho
  obtain ⟨q, hq⟩ := hG.rest
  have a1 := ad_val (t (o + 8)) (lb v) (fun i => t (o + i)) 8
  have a2 := ad_val 1 (lb v) (fun i => fo2 t o v (o + i)) 8
  have es : nv (fun i => fo2 t o v (o + i)) 8 = nv (ad (t (o + 8)) (lb v) fun i => t (o + i)) 8 := nv_congr 8 fun i hi => by
    show fo2 t o v (o + i) = _
    unfold fo2 fo1
    rw [if_neg (by omega), if_neg (by omega)]
    show wj o 8 _ t (o + i) = _
    unfold wj
    rw [if_pos (by omega), Nat.add_sub_cancel_left]
  have hs : nv (fun i => t (o + i)) 8 < B8 := nv_lt8 fun i => ht _
  rw [es] at a2
  rw [← b8, nv8 hG.v_lt] at a1 a2
  obtain ⟨c1, c2⟩ := carry_one (ht (o + 8)) hG.small hs a1 a2 hc
  have hv2 := wa_val 1 (lb v) (fo2 t o v) o 16 (by omega)
  rw [nv8 hG.v_lt, show wc 1 (lb v) (fo2 t o v) o = 0 from c2, Nat.zero_mul, Nat.add_zero, Nat.one_mul] at hv2
  have hs2 := nv_swap (d := fo1 t o v) (k := o + 8) (v := 0) 16 (by omega)
  rw [show fo1 t o v (o + 8) = 1 from (if_pos rfl).trans c1, Nat.zero_mul, Nat.add_zero, two_o, Nat.one_mul] at hs2
  change nv (fo2 t o v) 16 + _ = _ at hs2
  refine ⟨wa_lt (fo2_lt ht), ?_, fun i hi => ?_, mod_back (k := k + q * 2 ^ (32 * o)) ?_⟩
  · rw [wa_off (o + 8) (Nat.le_refl _)]; unfold fo2; exact if_pos rfl
  · rw [wa_off i (by omega)]; unfold fo2; rw [if_neg (by omega)]; unfold fo1; rw [if_neg (by omega)]; exact wa_off i (by omega)
  · rw [hk, Nat.mul_add, hv2]
    rw [hq, Nat.add_mul] at hs2
    rw [← Nat.mul_assoc p q]
    generalize p * q * 2 ^ (32 * o) = A at *
    generalize v * 2 ^ (32 * o) = A2 at *
    omega
theorem fold_any (p v g o : Nat) (t : Nat → Nat) (w : World) (hG : Good p v) (H : RW w g t) (ho : o < 8) (ht : ∀ i, t i < 4294967296) :
    Calls Try.prog 44 #[fdV p v, .pointer (some ⟨g, 0, none⟩), .int .i64 (o : Nat)] w fun e u => e = .returned (.tuple #[]) ∧ But g w u ∧ ∃ t', Fo p o t t' ∧ RW u g t' :=
  fold_raw p v g o t (Fo p o t) w H ho ht (fo_one hG ho ht) (fo_two hG ho ht)
end Go.Proofs.Nd
