/-
  Keys out of keys, as plain functions: a known mac, longer keys begin as shorter ones, long keys, noughts behind short ones.
-/
import Derived.Test.YtbfkbinkfboklaaDoorHkD
import Derived.KernelRfl
namespace Go.Proofs.Hk
open Go.RowKit Go.Proofs.Be Go.Proofs.Sha
def jefe : ByteArray := ⟨#[74, 101, 102, 101]⟩
def want : ByteArray := ⟨#[119, 104, 97, 116, 32, 100, 111, 32, 121, 97, 32, 119, 97, 110, 116, 32, 102, 111, 114, 32, 110, 111, 116, 104, 105, 110, 103, 63]⟩
def jefeS : ByteArray := ⟨#[91, 220, 193, 70, 191, 96, 117, 78, 106, 4, 36, 38, 8, 149, 117, 199, 90, 0, 63, 8, 157, 39, 57, 131, 157, 236, 88, 185, 100, 236, 56, 67]⟩
set_option maxRecDepth 100000 in
theorem mac_jefe : macS 256 jefe want = jefeS := by kernel_rfl
/-- What was told out first stays at the head. -/
theorem outS_head (b : Int) (key info : ByteArray) (n k z : Nat) (hz : z ≤ (outS b key info n).size) : (outS b key info (n + k)).extract 0 z = (outS b key info n).extract 0 z ∧ (outS b key info n).size ≤ (outS b key info (n + k)).size := by
  induction k with
  | zero => exact ⟨rfl, Nat.le_refl _⟩
  | succ k ih =>
    have e : outS b key info (n + (k + 1)) = outS b key info (n + k) ++ lastS b key info (n + k + 1) := rfl
    refine ⟨?_, ?_⟩
    · rw [e, ByteArray.extract_append, show (lastS b key info (n + k + 1)).extract (0 - (outS b key info (n + k)).size) (z - (outS b key info (n + k)).size) = ByteArray.empty from ByteArray.extract_eq_empty_iff.mpr (by have := ih.2; omega), ByteArray.append_empty]
      exact ih.1
    · rw [e, ByteArray.size_append]; have := ih.2; omega
theorem upTo_le (d z : Nat) (hd : 0 < d) : z ≤ d * upTo d z := by
  unfold upTo
  have h := Nat.div_add_mod (z + d - 1) d
  have h2 := Nat.mod_lt (z + d - 1) hd
  omega
theorem upTo_mono (d a b : Nat) (h : a ≤ b) : upTo d a ≤ upTo d b := Nat.div_le_div_right (by omega)
theorem may_pos (b : Int) (h : may b = true) : 0 < (b / 8).toNat := by
  have h := of_decide_eq_true h
  rcases h with rfl | rfl <;> decide
theorem mayE_may {b z : Int} (h : mayE b z = true) : may b = true := by
  unfold mayE at h; cases hm : may b <;> simp_all
theorem outS_upTo (b : Int) (key info : ByteArray) (z : Nat) (h : may b = true) : z ≤ (outS b key info (upTo (b / 8).toNat z)).size := by
  rw [outS_size _ _ _ _ h]; exact upTo_le _ _ (may_pos b h)
theorem expS_eq (b : Int) (key info : ByteArray) (z : Int) (h : mayE b z = true) : expS b key info z = (outS b key info (upTo (b / 8).toNat z.toNat)).extract 0 z.toNat := by
  unfold expS; rw [h]; rfl
theorem expS_size (b : Int) (key info : ByteArray) (z : Int) (h : mayE b z = true) : (expS b key info z).size = z.toNat := by
  rw [expS_eq _ _ _ _ h, ByteArray.size_extract]
  have := outS_upTo b key info z.toNat (mayE_may h)
  omega
/-- A longer key begins as a shorter one. -/
theorem expS_begins (b : Int) (key info : ByteArray) (x y : Int) (hx : mayE b x = true) (hy : mayE b y = true) (h : x ≤ y) : (expS b key info y).extract 0 x.toNat = expS b key info x := by
  have hm := mayE_may hx
  obtain ⟨k, hk⟩ := Nat.exists_eq_add_of_le (upTo_mono (b / 8).toNat x.toNat y.toNat (by omega))
  rw [expS_eq _ _ _ _ hx, expS_eq _ _ _ _ hy, ByteArray.extract_extract, hk]
  rw [show min (0 + x.toNat) y.toNat = x.toNat by omega]
  exact (outS_head b key info _ k x.toNat (outS_upTo b key info x.toNat hm)).1
/-- A key longer than a block counts as its digest. -/
theorem keyS_long (b : Int) (key : ByteArray) (h : bS b < key.size) : keyS b (digS b key) = keyS b key := by
  have h2 : ¬ bS b < (digS b key).size := by
    have := digS_le b key
    unfold bS; split <;> omega
  unfold keyS; rw [if_neg h2, if_pos h]
theorem macS_long (b : Int) (key s : ByteArray) (h : bS b < key.size) : macS b (digS b key) s = macS b key s := by
  unfold macS; rw [keyS_long b key h]
/-- Noughts behind a short key turn nothing. -/
theorem xorN_zeros (key z : ByteArray) (b t : Nat) (hz : ∀ t, byt z t = 0) : xorN (key ++ z) b t = xorN key b t := by
  have e : byt (key ++ z) t = if t < key.size then byt key t else byt z (t - key.size) := by
    unfold byt
    rw [show (key ++ z).data.toList = key.data.toList ++ z.data.toList by simp, List.getD_eq_getElem?_getD]
    have hl : key.data.toList.length = key.size := by simp
    by_cases h : t < key.size
    · rw [if_pos h, List.getElem?_append_left (by omega), ← List.getD_eq_getElem?_getD]
    · rw [if_neg h, List.getElem?_append_right (by omega), hl, ← List.getD_eq_getElem?_getD]
  unfold xorN
  rw [ByteArray.size_append, e]
  by_cases h : t < key.size
  · rw [if_pos (by omega), if_pos h, if_pos h]
  · rw [if_neg h, if_neg h, hz, Nat.zero_xor, ite_self]
theorem macS_zeros (b : Int) (key z s : ByteArray) (hz : ∀ t, byt z t = 0) (h : key.size + z.size ≤ bS b) : macS b (key ++ z) s = macS b key s := by
  have h1 : keyS b (key ++ z) = key ++ z := by unfold keyS; rw [if_neg (by rw [ByteArray.size_append]; omega)]
  have h2 : keyS b key = key := by unfold keyS; rw [if_neg (by omega)]
  have h3 : ∀ c m, xorS (key ++ z) c m = xorS key c m := fun c m => by unfold xorS; simp only [xorN_zeros key z c _ hz]
  unfold macS; rw [h1, h2, h3, h3]
end Go.Proofs.Hk
