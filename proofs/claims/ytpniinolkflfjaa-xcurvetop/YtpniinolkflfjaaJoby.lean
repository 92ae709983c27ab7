/-
  Texts of 32 bytes as numbers, the lowest byte first; which keys and points are the same to X25519. Of no program.
-/
import Derived.Test.YtpniinolkflfjaaJobt
namespace Go.Proofs.Xv
open Go.Proofs.Nt
open Go.Proofs.Xu
open Go.Proofs.Ec (pX)
open Go.Proofs.Aes (byt byt_lt get_byt)
/-- n bytes from place o on, the lowest first. -/
def leo (A : Nat → Nat) : Nat → Nat → Nat
  | _, 0 => 0
  | o, n + 1 => A o + 256 * leo A (o + 1) n
theorem leo_congr {A B : Nat → Nat} : ∀ n o, (∀ t, o ≤ t → t < o + n → A t = B t) → leo A o n = leo B o n
  | 0, _, _ => rfl
  | n + 1, o, h => by
    show A o + 256 * leo A (o + 1) n = B o + 256 * leo B (o + 1) n
    rw [h o (Nat.le_refl _) (by omega), leo_congr n (o + 1) fun t h1 h2 => h t (by omega) (by omega)]
theorem leo_lt {A : Nat → Nat} (h : ∀ t, A t < 256) : ∀ n o, leo A o n < 256 ^ n
  | 0, _ => Nat.one_pos
  | n + 1, o => by
    have h1 := leo_lt h n (o + 1)
    have h2 := h o
    show A o + 256 * leo A (o + 1) n < 256 ^ (n + 1)
    rw [Nat.pow_succ]; omega
theorem leo_last (A : Nat → Nat) : ∀ n o, leo A o (n + 1) = leo A o n + 256 ^ n * A (o + n)
  | 0, o => by show A o + 256 * 0 = 0 + 256 ^ 0 * A (o + 0); simp
  | n + 1, o => by
    have ih := leo_last A n (o + 1)
    show A o + 256 * leo A (o + 1) (n + 1) = A o + 256 * leo A (o + 1) n + 256 ^ (n + 1) * A (o + (n + 1))
    rw [ih, show o + 1 + n = o + (n + 1) by omega, Nat.pow_succ, Nat.mul_add, ← Nat.mul_assoc, Nat.mul_comm 256 (256 ^ n)]
    omega
theorem bg_rv (s : ByteArray) : ∀ k, k ≤ 32 → bg (rv s) 0 k = leo (byt s) (32 - k) k
  | 0, _ => rfl
  | k + 1, h => by
    have ih := bg_rv s k (by omega)
    show bg (rv s) 0 k * 256 + byt (rv s) (0 + k) = byt s (32 - (k + 1)) + 256 * leo (byt s) (32 - (k + 1) + 1) k
    rw [ih, Nat.zero_add, rv_byt s k (by omega), show 31 - k = 32 - (k + 1) by omega, show 32 - (k + 1) + 1 = 32 - k by omega]
    omega
theorem bn_rv (s : ByteArray) : bn (rv s) = leo (byt s) 0 32 := bg_rv s 32 (Nat.le_refl _)
/-- A text by its bytes. -/
def tx (A : Nat → Nat) : ByteArray := Lw.pieceS A 0 32
theorem tx_size (A : Nat → Nat) : (tx A).size = 32 := Lw.pieceS_size _ _ _
theorem bn_tx {A : Nat → Nat} (h : ∀ t, A t < 256) : bn (rv (tx A)) = leo A 0 32 := by
  rw [bn_rv]
  refine leo_congr 32 0 fun t _ ht => ?_
  unfold tx
  rw [Lw.byt_piece A 0 32 t (by omega) h, Nat.zero_add]
theorem kE_tx {A : Nat → Nat} (h : ∀ t, A t < 256) : kE (tx A) = cl (leo A 0 32) := by unfold kE; rw [bn_tx h]
theorem uX_tx {A : Nat → Nat} (h : ∀ t, A t < 256) : uX (tx A) = Fin.ofNat pX (leo A 0 32 % 2 ^ 255) := by unfold uX; rw [bn_tx h]
theorem leo_parts (A : Nat → Nat) : leo A 0 32 = A 0 + 256 * leo A 1 30 + 256 ^ 31 * A 31 := by
  rw [leo_last A 31 0]
  show A 0 + 256 * leo A 1 30 + 256 ^ 31 * A (0 + 31) = _
  rw [Nat.zero_add]
theorem cl_split (a m b : Nat) (ha : a < 256) (hm : m < 256 ^ 30) : cl (a + 256 * m + 256 ^ 31 * b) = a / 8 * 8 + 256 * m + 256 ^ 31 * (b % 64) + 2 ^ 254 := by
  unfold cl
  simp only [Nat.reducePow] at *
  omega
/-- The bits that are clamped do not count. -/
theorem kE_same {A B : Nat → Nat} (hA : ∀ t, A t < 256) (hB : ∀ t, B t < 256) (h0 : A 0 / 8 = B 0 / 8) (h31 : A 31 % 64 = B 31 % 64) (h : ∀ t, 1 ≤ t → t < 31 → A t = B t) : kE (tx A) = kE (tx B) := by
  rw [kE_tx hA, kE_tx hB, leo_parts A, leo_parts B, leo_congr (B := B) 30 1 fun t h1 h2 => h t h1 (by omega), cl_split _ _ _ (hA 0) (leo_lt hB 30 1), cl_split _ _ _ (hB 0) (leo_lt hB 30 1), h0, h31]
/-- A point's highest bit does not count. -/
theorem uX_same {A B : Nat → Nat} (hA : ∀ t, A t < 256) (hB : ∀ t, B t < 256) (h31 : A 31 % 128 = B 31 % 128) (h : ∀ t, t < 31 → A t = B t) : uX (tx A) = uX (tx B) := by
  rw [uX_tx hA, uX_tx hB, leo_last A 31 0, leo_last B 31 0, leo_congr (B := B) 31 0 fun t _ h2 => h t (by omega), Nat.zero_add]
  have hl := leo_lt hB 31 0
  congr 1
  simp only [Nat.reducePow] at *
  omega
/-- The prime and x as bytes. -/
def pA (x t : Nat) : Nat := if t = 0 then x else if t = 31 then 127 else 255
/-- A small number's bytes. -/
def sA (x t : Nat) : Nat := if t = 0 then x else 0
theorem pA_lt {x : Nat} (h : x < 256) (t : Nat) : pA x t < 256 := by unfold pA; split; exact h; split <;> decide
theorem sA_lt {x : Nat} (h : x < 256) (t : Nat) : sA x t < 256 := by unfold sA; split; exact h; decide
theorem leo_pA (x : Nat) : leo (pA x) 0 32 = x + (2 ^ 255 - 256) := by
  rw [leo_parts]
  have e : leo (pA x) 1 30 = 256 ^ 30 - 1 := by
    have : leo (pA x) 1 30 = leo (fun _ => 255) 1 30 := leo_congr 30 1 fun t h1 h2 => by unfold pA; rw [if_neg (by omega), if_neg (by omega)]
    rw [this]; decide +kernel
  have e0 : pA x 0 = x := rfl
  have e31 : pA x 31 = 127 := rfl
  rw [e0, e31]
  generalize leo (pA x) 1 30 = L at *
  clear e0 e31
  simp only [Nat.reducePow, Nat.reduceMul, Nat.reduceSub] at *
  omega
theorem leo_sA (x : Nat) : leo (sA x) 0 32 = x := by
  rw [leo_parts]
  have e : leo (sA x) 1 30 = 0 := by
    have : leo (sA x) 1 30 = leo (fun _ => 0) 1 30 := leo_congr 30 1 fun t h1 h2 => by unfold sA; rw [if_neg (by omega)]
    rw [this]; decide +kernel
  rw [e, show sA x 0 = x from rfl, show sA x 31 = 0 from rfl]
  omega
theorem fin_val (x : Nat) : (Fin.ofNat pX x).val = x % pX := rfl
/-- A small point, and the prime more. -/
theorem uX_reduced {x : Nat} (h : x < 19) : uX (tx (pA (237 + x))) = uX (tx (sA x)) := by
  rw [uX_tx (pA_lt (by omega)), uX_tx (sA_lt (by omega)), leo_pA, leo_sA]
  apply Fin.ext
  rw [fin_val, fin_val]
  have h1 : 237 + x + (2 ^ 255 - 256) = pX + x := by
    have : pX = 2 ^ 255 - 19 := by decide
    omega
  rw [h1, Nat.mod_eq_of_lt (a := pX + x) (by have : pX = 2 ^ 255 - 19 := by decide
                                             omega), Nat.mod_eq_of_lt (a := x) (b := 2 ^ 255) (by omega), Nat.add_mod_left]
theorem uX_sA {x : Nat} (h : x < 256) : uX (tx (sA x)) = Fin.ofNat pX x := by
  rw [uX_tx (sA_lt h), leo_sA, Nat.mod_eq_of_lt (by omega)]
theorem uX_minus : uX (tx (pA 236)) = -1 := by
  rw [uX_tx (pA_lt (by decide)), leo_pA]
  decide +kernel
theorem uX_prime : uX (tx (pA 237)) = 0 := by
  rw [uX_tx (pA_lt (by decide)), leo_pA]
  decide +kernel
theorem clampE (k : ByteArray) : Ec.Clamp (kE k) := by
  unfold kE Ec.Clamp cl
  generalize bn (rv k) = n
  refine ⟨by omega, ?_, by omega⟩
  omega
end Go.Proofs.Xv
/-
  What X25519 answers at the texts of the laws. Of no program.
-/
namespace Go.Proofs.Xv
open Go.Proofs.Nt
open Go.Proofs.Xu
open Go.Proofs.Ec (pX publicX agreeX sharedX smallX_zero smallX_one smallX_minus)
open Go.Proofs.Aes (byt byt_lt get_byt)
/-- The base's text. -/
def nineS : ByteArray := tx (sA 9)
theorem nineS_size : nineS.size = 32 := tx_size _
theorem uX_nine : uX nineS = 9 := by
  unfold nineS
  rw [uX_sA (by decide)]
  rfl
theorem sF_at (k u : ByteArray) {X : Fin pX} (h : uX u = X) : sF k u = Ec.ladU 121665 X (kE k) := sF_eq' k u h
theorem sF_pub (k : ByteArray) : sF k nineS = Ec.ladU 121665 9 (kE k) := sF_at k nineS uX_nine
theorem val_ne {F : Fin pX} (h : ¬ F = 0) : ¬ F.val = 0 := fun e => h (Fin.ext (by rw [Ec.zero_val]; exact e))
theorem sh_same {k k' u u' : ByteArray} (hk : k.size = 32) (hk' : k'.size = 32) (hu : u.size = 32) (hu' : u'.size = 32) (h : sF k u = sF k' u') : shS k u = shS k' u' ∧ shE k u = shE k' u' := by
  have e : shOk k u = shOk k' u' := by unfold shOk; rw [hk, hk', hu, hu']
  unfold shS shE
  rw [h, e]
  exact ⟨rfl, rfl⟩
theorem sF_same {k k' u u' : ByteArray} (hk : kE k = kE k') (hu : uX u = uX u') : sF k u = sF k' u' := by
  rw [sF_at k u hu, sF_at k' u' rfl, hk]
theorem sh_some {k u : ByteArray} (hk : k.size = 32) (hu : u.size = 32) (h : ¬ sF k u = 0) : shS k u = rv (t32 (sF k u).val) ∧ shE k u = 0 := sh_fine (by omega) (by omega) rfl (val_ne h)
theorem sh_none {k u : ByteArray} (hk : k.size = 32) (hu : u.size = 32) (h : sF k u = 0) : shS k u = ⟨#[]⟩ ∧ shE k u = 1001 := sh_zero (by omega) (by omega) (by rw [h]; exact Ec.zero_val)
theorem sh_form1 {k u : ByteArray} (hk : ¬ k.size = 32) : shS k u = ⟨#[]⟩ ∧ shE k u = 1000 := by
  have e : shOk k u = false := by unfold shOk; rw [show (k.size == 32) = false by simpa using hk, Bool.false_and]
  unfold shS shE
  rw [e]
  exact ⟨rfl, rfl⟩
/-- Either an answer of 32 bytes, or none. -/
theorem sh_len {k u : ByteArray} (hk : k.size = 32) (hu : u.size = 32) : (shE k u = 0 ∧ (shS k u).size = 32) ∨ (shE k u = 1001 ∧ (shS k u).size = 0) := by
  by_cases h : sF k u = 0
  · obtain ⟨h1, h2⟩ := sh_none hk hu h
    rw [h1, h2]; exact .inr ⟨rfl, rfl⟩
  · obtain ⟨h1, h2⟩ := sh_some hk hu h
    rw [h1, h2]; exact .inl ⟨rfl, rv_size _⟩
theorem uX_back (F : Fin pX) : uX (rv (t32 F.val)) = F := by
  have hl := F.isLt
  unfold uX
  rw [rv_rv (t32_size _), bn_t32 (Nat.lt_trans hl (by decide))]
  apply Fin.ext
  rw [fin_val, Nat.mod_eq_of_lt (a := F.val) (b := 2 ^ 255) (Nat.lt_trans hl (by decide)), Nat.mod_eq_of_lt hl]
/-- What a key makes public. -/
theorem pub_some {k : ByteArray} (hk : k.size = 32) : shS k nineS = rv (t32 (sF k nineS).val) ∧ shE k nineS = 0 :=
  sh_some hk nineS_size (by rw [sF_pub]; exact publicX (clampE k))
theorem pub_size {k : ByteArray} (hk : k.size = 32) : (shS k nineS).size = 32 := by rw [(pub_some hk).1]; exact rv_size _
theorem sF_both {a b : ByteArray} (hb : b.size = 32) : sF a (shS b nineS) = Ec.ladU 121665 (Ec.ladU 121665 9 (kE b)) (kE a) :=
  sF_at a _ (by rw [(pub_some hb).1, uX_back, sF_pub])
theorem agree_some {a b : ByteArray} (ha : a.size = 32) (hb : b.size = 32) : shE a (shS b nineS) = 0 :=
  (sh_some ha (pub_size hb) (by rw [sF_both hb]; exact sharedX (clampE a) (clampE b))).2
theorem agree_same {a b : ByteArray} (ha : a.size = 32) (hb : b.size = 32) : shS a (shS b nineS) = shS b (shS a nineS) :=
  (sh_same ha hb (pub_size hb) (pub_size ha) (by rw [sF_both hb, sF_both ha]; exact agreeX (clampE a) (clampE b))).1
theorem small_0 {k : ByteArray} (hk : k.size = 32) : shS k (tx (sA 0)) = ⟨#[]⟩ ∧ shE k (tx (sA 0)) = 1001 :=
  sh_none hk (tx_size _) (by rw [sF_at k _ (uX_sA (by decide))]; exact smallX_zero _)
theorem small_1 {k : ByteArray} (hk : k.size = 32) : shS k (tx (sA 1)) = ⟨#[]⟩ ∧ shE k (tx (sA 1)) = 1001 :=
  sh_none hk (tx_size _) (by rw [sF_at k _ (uX_sA (by decide))]; exact smallX_one (clampE k))
theorem small_p {k : ByteArray} (hk : k.size = 32) : shS k (tx (pA 237)) = ⟨#[]⟩ ∧ shE k (tx (pA 237)) = 1001 :=
  sh_none hk (tx_size _) (by rw [sF_at k _ uX_prime]; exact smallX_zero _)
theorem small_m {k : ByteArray} (hk : k.size = 32) : shS k (tx (pA 236)) = ⟨#[]⟩ ∧ shE k (tx (pA 236)) = 1001 :=
  sh_none hk (tx_size _) (by rw [sF_at k _ uX_minus]; exact smallX_minus (clampE k))
/-- What the key of noughts makes public. -/
abbrev v0 : Nat := 52573937849532372069814888178136277301931757964231753054399601207743438775599
def f0 : Fin pX := ⟨v0, by decide +kernel⟩
theorem lad0 : (Ec.lad (m := pX) 121665 9 (2 ^ 254) 255).x2 = (Ec.lad (m := pX) 121665 9 (2 ^ 254) 255).z2 * f0 ∧ ¬ (Ec.lad (m := pX) 121665 9 (2 ^ 254) 255).z2 = 0 := by decide +kernel
theorem ladU0 : Ec.ladU (m := pX) 121665 9 (2 ^ 254) = f0 := by
  unfold Ec.ladU
  obtain ⟨h1, h2⟩ := lad0
  generalize (Ec.lad (m := pX) 121665 9 (2 ^ 254) 255).x2 = X at *
  generalize (Ec.lad (m := pX) 121665 9 (2 ^ 254) 255).z2 = Z at *
  have h3 := Ec.iv_mul mod_x h2
  generalize Ec.iv Z = t at *
  rw [h1]
  clear h1 h2
  grind
theorem kE_zero : kE (tx (sA 0)) = 2 ^ 254 := by
  rw [kE_tx (sA_lt (by decide)), leo_sA]
  decide +kernel
theorem pub0 : sF (tx (sA 0)) nineS = f0 := by rw [sF_pub, kE_zero]; exact ladU0
theorem pub0_0 : byt (shS (tx (sA 0)) nineS) 0 = 47 := by
  rw [(pub_some (tx_size _)).1, pub0, rv_byt _ 0 (by decide), t32_byt _ _ (by decide)]
  decide +kernel
theorem pub0_1 : byt (shS (tx (sA 0)) nineS) 1 = 229 := by
  rw [(pub_some (tx_size _)).1, pub0, rv_byt _ 1 (by decide), t32_byt _ _ (by decide)]
  decide +kernel
end Go.Proofs.Xv
