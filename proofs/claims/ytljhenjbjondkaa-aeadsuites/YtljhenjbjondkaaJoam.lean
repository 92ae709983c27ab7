/-
  AES as plain functions, by lists, so that the kernel can evaluate it; two published blocks.
-/
import Derived.Test.YtljhenjbjondkaaJoak
import Derived.KernelRfl
import Derived.Test.YtljhenjbjondkaaJoal
namespace Go.Proofs.Aes
open Go.RowKit
def toL (f : Nat → Nat) (n : Nat) : List Nat := (List.range n).map f
def ofL (l : List Nat) : Nat → Nat := fun i => l.getD i 0
theorem ofL_toL (f : Nat → Nat) (n i : Nat) (h : i < n) : ofL (toL f n) i = f i := by
  unfold ofL toL; rw [List.getD_eq_getElem?_getD, List.getElem?_map, List.getElem?_range h]; rfl
def rndL (wk : Nat → Nat) (n : Nat) (x : Nat → Nat) : Nat → List Nat
  | 0 => toL (fun i => x i ^^^ wk i) 16
  | r + 1 => toL (addS wk (r + 1) (ofL (if r + 1 < n then toL (mixS (ofL (toL (subS (ofL (rndL wk n x r))) 16))) 16 else toL (subS (ofL (rndL wk n x r))) 16))) 16
theorem subS_congr {x y : Nat → Nat} (h : ∀ i, i < 16 → x i = y i) (i : Nat) : subS x i = subS y i := by
  unfold subS; rw [h _ (Nat.mod_lt _ (by decide))]
theorem mixS_congr {x y : Nat → Nat} (h : ∀ i, i < 16 → x i = y i) (i : Nat) (hi : i < 16) : mixS x i = mixS y i := by
  unfold mixS allC
  rw [h i hi, h (4 * (i / 4)) (by omega), h (4 * (i / 4) + 1) (by omega), h (4 * (i / 4) + 2) (by omega), h (4 * (i / 4) + 3) (by omega), h (4 * (i / 4) + (i % 4 + 1) % 4) (by omega)]
theorem rndL_eq {wk wk' : Nat → Nat} (n : Nat) (x : Nat → Nat) (hw : ∀ t, t < 16 * (n + 1) → wk' t = wk t) (r : Nat) (hr : r ≤ n) (i : Nat) (hi : i < 16) : ofL (rndL wk' n x r) i = rndS wk n x r i := by
  induction r generalizing i with
  | zero =>
    show ofL (toL (fun i => x i ^^^ wk' i) 16) i = x i ^^^ wk i
    rw [ofL_toL _ _ _ hi, hw i (by omega)]
  | succ r ih =>
    have hs : ∀ i, i < 16 → ofL (toL (subS (ofL (rndL wk' n x r))) 16) i = subS (rndS wk n x r) i := fun i hi => by
      rw [ofL_toL _ _ _ hi]; exact subS_congr (fun j hj => ih (by omega) j hj) i
    show ofL (toL (addS wk' (r + 1) _) 16) i = addS wk (r + 1) _ i
    rw [ofL_toL _ _ _ hi]
    unfold addS
    rw [hw (16 * (r + 1) + i) (by omega)]
    congr 1
    by_cases hm : r + 1 < n
    · rw [if_pos hm, if_pos hm, ofL_toL _ _ _ hi]
      exact mixS_congr hs i hi
    · rw [if_neg hm, if_neg hm]
      exact hs i hi
def exL (k : Nat) (key : ByteArray) : Nat → List Nat
  | 0 => toL (byt key) (4 * k)
  | m + 1 => exL k key m ++ toL (stepW k (k + m) (ofL (exL k key m))) 4
theorem exL_length (k : Nat) (key : ByteArray) (m : Nat) : (exL k key m).length = 4 * (k + m) := by
  induction m with
  | zero => simp [exL, toL]
  | succ m ih => simp [exL, toL, ih]; omega
theorem stepW_congr {f g : Nat → Nat} (k i j : Nat) (hk : 0 < k) (hi : k ≤ i) (hj : j < 4) (h : ∀ t, t < 4 * i → f t = g t) : stepW k i f j = stepW k i g j := by
  unfold stepW tmpW
  rw [h (4 * (i - 1) + 1) (by omega), h (4 * (i - 1) + (j + 1) % 4) (by omega), h (4 * (i - 1) + j) (by omega), h (4 * (i - k) + j) (by omega)]
theorem exL_eq (k : Nat) (key : ByteArray) (hk : 0 < k) (m t : Nat) (ht : t < 4 * (k + m)) : ofL (exL k key m) t = exS k key m t := by
  induction m generalizing t with
  | zero => exact ofL_toL _ _ _ ht
  | succ m ih =>
    show (exL k key m ++ toL (stepW k (k + m) (ofL (exL k key m))) 4).getD t 0 = if t / 4 = k + m then stepW k (k + m) (exS k key m) (t % 4) else exS k key m t
    have hl := exL_length k key m
    by_cases h : t / 4 = k + m
    · rw [if_pos h, List.getD_eq_getElem?_getD, List.getElem?_append_right (by omega), ← List.getD_eq_getElem?_getD, hl, show t - 4 * (k + m) = t % 4 by omega]
      show ofL (toL _ 4) (t % 4) = _
      rw [ofL_toL _ _ _ (by omega)]
      exact stepW_congr k (k + m) (t % 4) hk (by omega) (by omega) (fun t ht => ih t ht)
    · rw [if_neg h, List.getD_eq_getElem?_getD, List.getElem?_append_left (by omega), ← List.getD_eq_getElem?_getD]
      exact ih t (by omega)
def encL (k : Nat) (key s : ByteArray) : ByteArray := strOfNums ((rndL (ofL (exL k key (3 * k + 28))) (k + 6) (byt s) (k + 6)).map fun i : Nat => (i : Int))
theorem rndL_length (wk : Nat → Nat) (n : Nat) (x : Nat → Nat) (r : Nat) : (rndL wk n x r).length = 16 := by
  cases r <;> simp [rndL, toL]
theorem list16 (l : List Nat) (f : Nat → Nat) (hl : l.length = 16) (h : ∀ i, i < 16 → ofL l i = f i) : ((List.range 16).map fun i => (f i : Int)) = l.map fun i : Nat => (i : Int) := by
  apply List.ext_getElem?
  intro i
  by_cases hi : i < 16
  · have e := h i hi
    unfold ofL at e
    rw [List.getD_eq_getElem?_getD, List.getElem?_eq_getElem (by omega)] at e
    rw [List.getElem?_map, List.getElem?_map, List.getElem?_range hi, List.getElem?_eq_getElem (by omega)]
    show some ((f i : Nat) : Int) = some ((l[i] : Nat) : Int)
    rw [← e]; rfl
  · rw [List.getElem?_eq_none (by simp; omega), List.getElem?_eq_none (by simp; omega)]
theorem encL_eq (k : Nat) (key s : ByteArray) (hk : 0 < k) (h : key.size / 4 = k) : encS key s = encL k key s := by
  unfold encS encL ciphS
  rw [h]
  generalize hn : k + 6 = n
  have hx : ∀ t, t < 16 * (n + 1) → ofL (exL k key (3 * k + 28)) t = exS k key (3 * k + 28) t := fun t ht => exL_eq k key hk _ t (by omega)
  exact congrArg strOfNums (list16 _ _ (rndL_length _ _ _ _) (rndL_eq n (byt s) hx n (Nat.le_refl _)))
def k16 : ByteArray := ⟨#[0, 1, 2, 3, 4, 5, 6, 7, 8, 9, 10, 11, 12, 13, 14, 15]⟩
def k32 : ByteArray := ⟨#[0, 1, 2, 3, 4, 5, 6, 7, 8, 9, 10, 11, 12, 13, 14, 15, 16, 17, 18, 19, 20, 21, 22, 23, 24, 25, 26, 27, 28, 29, 30, 31]⟩
def p16 : ByteArray := ⟨#[0, 17, 34, 51, 68, 85, 102, 119, 136, 153, 170, 187, 204, 221, 238, 255]⟩
def c16 : ByteArray := ⟨#[105, 196, 224, 216, 106, 123, 4, 48, 216, 205, 183, 128, 112, 180, 197, 90]⟩
def c32 : ByteArray := ⟨#[142, 162, 183, 202, 81, 103, 69, 191, 234, 252, 73, 144, 75, 73, 96, 137]⟩
set_option maxRecDepth 100000 in
theorem enc_16 : encS k16 p16 = c16 := (encL_eq 4 k16 p16 (by decide) rfl).trans (by kernel_rfl)
set_option maxRecDepth 100000 in
theorem enc_32 : encS k32 p16 = c32 := (encL_eq 8 k32 p16 (by decide) rfl).trans (by kernel_rfl)
end Go.Proofs.Aes
/-
  GCM as plain functions: known seals, by the kernel.
-/
namespace Go.Proofs.Gcm
open Go.RowKit
open Go.Proofs.Aes (byt byt_lt ciphS ciphS_size encS encL encL_eq)
open Go.Proofs.Be (beS)
def xor16 (a b : ByteArray) : ByteArray := strOfNums ((List.range 16).map fun t => ((byt a t ^^^ byt b t : Nat) : Int))
theorem ctrS_16 (wk : Nat → Nat) (n : Nat) (nonce : ByteArray) (f : Nat) (s : ByteArray) (hs : s.size = 16) : ctrS wk n nonce f s = xor16 s (ciphS wk n (nonce ++ beS f 4)) := by
  unfold ctrS xor16
  rw [hs]
  refine congrArg strOfNums (List.map_congr_left fun t ht => ?_)
  have ht := List.mem_range.1 ht
  unfold ctrB
  rw [show t / 16 = 0 by omega, show t % 16 = t by omega, Nat.add_zero]
theorem tag_16 (key nonce aad c : ByteArray) (h : key.size = 16) : tagS (wkS key) (nR key) nonce aad c = xor16 (ghS (encL 4 key (zS 16)) (authS aad c)) (encL 4 key (nonce ++ beS 1 4)) := by
  have e (s : ByteArray) : ciphS (wkS key) (nR key) s = encL 4 key s := by rw [← encL_eq 4 key s (by decide) (by rw [h])]; rfl
  unfold tagS
  rw [ctrS_16 _ _ _ _ _ (ghS_size _ _), e, e]
def t0 : ByteArray := ⟨#[88, 226, 252, 206, 250, 126, 48, 97, 54, 127, 29, 87, 164, 231, 69, 90]⟩
def z16 : ByteArray := ⟨#[0, 0, 0, 0, 0, 0, 0, 0, 0, 0, 0, 0, 0, 0, 0, 0]⟩
def z12 : ByteArray := ⟨#[0, 0, 0, 0, 0, 0, 0, 0, 0, 0, 0, 0]⟩
theorem zS_16 : zS 16 = z16 := by rfl
theorem zS_12 : (zS 16).extract 0 12 = z12 := by rfl
set_option maxRecDepth 100000 in
theorem tag_none : tagS (wkS z16) (nR z16) z12 ⟨#[]⟩ ⟨#[]⟩ = t0 := (tag_16 z16 z12 ⟨#[]⟩ ⟨#[]⟩ rfl).trans (by kernel_rfl)
def tx : ByteArray := ⟨#[30, 5, 250, 185, 227, 162, 125, 88, 238, 216, 227, 180, 162, 82, 177, 218]⟩
set_option maxRecDepth 100000 in
theorem tag_x : tagS (wkS z16) (nR z16) z12 ⟨#[120]⟩ ⟨#[]⟩ = tx := (tag_16 z16 z12 ⟨#[120]⟩ ⟨#[]⟩ rfl).trans (by kernel_rfl)
theorem ctrS_none (wk : Nat → Nat) (n : Nat) (nonce : ByteArray) (f : Nat) : ctrS wk n nonce f ⟨#[]⟩ = ⟨#[]⟩ := by rfl
theorem seal_none : sealS z16 z12 ⟨#[]⟩ ⟨#[]⟩ = t0 := by
  unfold sealS
  rw [ctrS_none, tag_none]; rfl
theorem ok_none (aad s : ByteArray) (ha : aad.size ≤ 65536) (more : Nat) (hs : s.size ≤ 65536 + more) : gcmOk z16 z12 aad s more = true := by
  unfold gcmOk
  rw [decide_eq_true ha, decide_eq_true hs]; rfl
theorem open_none : openS z16 z12 ⟨#[]⟩ t0 = ⟨#[]⟩ ∧ openE z16 z12 ⟨#[]⟩ t0 = 0 := by
  have h := open_seal z16 z12 ⟨#[]⟩ ⟨#[]⟩ (ok_none _ _ (by decide) _ (by decide))
  rwa [seal_none] at h
theorem open_x : openE z16 z12 ⟨#[120]⟩ t0 = 501 := by
  have ok : gcmOk z16 z12 ⟨#[120]⟩ t0 16 = true := ok_none _ _ (by decide) _ (by decide)
  have tg : tagOk z16 z12 ⟨#[120]⟩ t0 (t0.size - 16) = false := by
    unfold tagOk
    rw [show t0.size - 16 = 0 from rfl, show t0.extract 0 0 = ⟨#[]⟩ from rfl, tag_x]
    exact Bool.eq_false_iff.2 fun h => absurd (congrArg (fun b => byt b 0) ((same_iff _ _).1 h)) (by decide +kernel)
  have o : openB z16 z12 ⟨#[120]⟩ t0 = false := by unfold openB; rw [tg]; simp
  unfold openE
  rw [o, ok]; rfl
end Go.Proofs.Gcm
/-
  GCM as plain functions: what halberdlaw5's laws compare: sums of hashes, a sealed text byte by byte, forms.
-/
namespace Go.Proofs.Gcm
open Go.RowKit
open Go.Proofs.Aes (byt byt_lt get_byt ciphS encS)
open Go.Proofs.Be (beS)
theorem xor_bytes (a b x y : Nat) (hb : b < 256) (hy : y < 256) : (a * 256 + b) ^^^ (x * 256 + y) = (a ^^^ x) * 256 + (b ^^^ y) := by
  have h1 := Nat.xor_div_two_pow (a := a * 256 + b) (b := x * 256 + y) (n := 8)
  have h2 := Nat.xor_mod_two_pow (a := a * 256 + b) (b := x * 256 + y) (n := 8)
  rw [show (2 : Nat) ^ 8 = 256 from rfl] at h1 h2
  rw [show (a * 256 + b) / 256 = a by omega, show (x * 256 + y) / 256 = x by omega] at h1
  rw [show (a * 256 + b) % 256 = b by omega, show (x * 256 + y) % 256 = y by omega] at h2
  omega
theorem nv_sum (s t u : ByteArray) (h : ∀ i, byt u i = byt s i ^^^ byt t i) (a k : Nat) : nv u a k = nv s a k ^^^ nv t a k := by
  induction k with
  | zero => exact (Nat.xor_zero 0).symm
  | succ k ih =>
    show nv u a k * 256 + byt u (a + k) = (nv s a k * 256 + byt s (a + k)) ^^^ (nv t a k * 256 + byt t (a + k))
    rw [xor_bytes _ _ _ _ (byt_lt _ _) (byt_lt _ _), ih, h]
theorem digit_sum (a b j : Nat) : (a ^^^ b) / 256 ^ j % 256 = (a / 256 ^ j % 256) ^^^ (b / 256 ^ j % 256) := by
  have e : (256 : Nat) ^ j = 2 ^ (8 * j) := by rw [Nat.pow_mul]
  rw [e, Nat.xor_div_two_pow]
  exact Nat.xor_mod_two_pow (n := 8)
theorem wB_lt (a b t : Nat) : wB a b t < 256 := by unfold wB; split <;> exact Nat.mod_lt _ (by decide)
theorem wB_sum (a b p q t : Nat) : wB (a ^^^ p) (b ^^^ q) t = wB a b t ^^^ wB p q t := by
  unfold wB; split <;> exact digit_sum _ _ _
theorem wholeS_byt (a b t : Nat) (h : t < 16) : byt (wholeS a b) t = wB a b t := byt_nums (wB a b) 16 t h (wB_lt a b t)
/-- The hash of a sum is the sum of the hashes. -/
theorem ghS_sum (h s t u : ByteArray) (hs : s.size = u.size) (ht : t.size = u.size) (hu : ∀ i, byt u i = byt s i ^^^ byt t i) (i : Nat) (hi : i < 16) : byt (ghS h u) i = byt (ghS h s) i ^^^ byt (ghS h t) i := by
  unfold ghS
  rw [wholeS_byt _ _ _ hi, wholeS_byt _ _ _ hi, wholeS_byt _ _ _ hi, hs, ht]
  have m := gSum_sum (nv h 0 8) (nv h 8 8) s t u (nv64 h 0) (nv64 h 8) (fun a => nv_sum s t u hu a 8) (u.size / 16)
  rw [m.1, m.2, wB_sum]
theorem byt_out (s : ByteArray) (t : Nat) (h : s.size ≤ t) : byt s t = 0 := by
  unfold byt
  rw [List.getD_eq_getElem?_getD, List.getElem?_eq_none (by simpa using h)]; rfl
/-- A sealed text's byte ahead of the tag. -/
theorem sealS_byt (key nonce aad s : ByteArray) (t : Nat) (h : t < s.size) : byt (sealS key nonce aad s) t = ctrB (wkS key) (nR key) nonce 2 s t := by
  have h1 : byt ((sealS key nonce aad s).extract 0 (0 + s.size)) t = byt (sealS key nonce aad s) (0 + t) := byt_extract _ 0 s.size t h
  rw [Nat.zero_add, Nat.zero_add, sealS_head] at h1
  rw [← h1]
  unfold ctrS
  exact byt_nums (ctrB (wkS key) (nR key) nonce 2 s) s.size t h (ctrB_lt _ _ _ _ _ _)
/-- Under one nonce: two texts' sum is their plaintexts' sum. -/
theorem seal_twins (key nonce a b s t : ByteArray) (i : Nat) (h : i < s.size) (h' : i < t.size) : byt (sealS key nonce a s) i ^^^ byt (sealS key nonce b t) i = byt s i ^^^ byt t i := by
  rw [sealS_byt _ _ _ _ _ h, sealS_byt _ _ _ _ _ h']
  unfold ctrB
  rw [xor4, Nat.xor_self, Nat.xor_zero]
theorem encS_wk (key s : ByteArray) : encS key s = ciphS (wkS key) (nR key) s := rfl
/-- A sealed text is its plaintext under blocks of its nonce, counted from 2 on. -/
theorem seal_part (key nonce aad s : ByteArray) (m j : Nat) (hj : j < 16) (h : 16 * m + j < s.size) :
    byt (sealS key nonce aad s) (16 * m + j) = byt s (16 * m + j) ^^^ byt (encS key (nonce ++ beS (2 + m) 4)) j := by
  rw [sealS_byt _ _ _ _ _ h, encS_wk]
  unfold ctrB
  rw [show (16 * m + j) / 16 = m by omega, show (16 * m + j) % 16 = j by omega]
theorem beS_small (k : Nat) (h : k < 65536) : beS k 4 = ⟨#[0, 0, UInt8.ofNat (k / 256), UInt8.ofNat (k % 256)]⟩ := by
  unfold Be.beS
  simp only [Be.beL, List.nil_append, List.cons_append]
  rw [show k / 256 / 256 / 256 = 0 by omega, show k / 256 / 256 = 0 by omega, Nat.mod_eq_of_lt (show k / 256 < 256 by omega)]
  rfl
/-- Products with nought. -/
theorem tStep_zero (i : Nat) {s : TS} (h : s.c = 0 ∧ s.d = 0 ∧ s.x = 0 ∧ s.y = 0) : (tStep i s).c = 0 ∧ (tStep i s).d = 0 ∧ (tStep i s).x = 0 ∧ (tStep i s).y = 0 := by
  obtain ⟨h1, h2, h3, h4⟩ := h
  unfold tStep
  simp only [h1, h2, h3, h4]
  refine ⟨by decide, by decide, ?_, ?_⟩ <;> (split <;> rfl)
theorem tRun_zero {s : TS} (h : s.c = 0 ∧ s.d = 0 ∧ s.x = 0 ∧ s.y = 0) (i : Nat) : (tRun s i).c = 0 ∧ (tRun s i).d = 0 ∧ (tRun s i).x = 0 ∧ (tRun s i).y = 0 := by
  induction i with
  | zero => exact h
  | succ i ih => exact tStep_zero i ih
theorem mul_zero (a b : Nat) : mulX a b 0 0 = 0 ∧ mulY a b 0 0 = 0 := by
  have h := tRun_zero (s := ⟨a, b, 0, 0, 0, 0⟩) ⟨rfl, rfl, rfl, rfl⟩ 128
  exact ⟨h.2.2.1, h.2.2.2⟩
theorem gSum_zero (s : ByteArray) (k : Nat) : gSum 0 0 s k = (0, 0) := by
  induction k with
  | zero => rfl
  | succ k ih =>
    show (mulX _ _ 0 0, mulY _ _ 0 0) = (0, 0)
    rw [(mul_zero _ _).1, (mul_zero _ _).2]
theorem ghS_zero (s : ByteArray) : ghS z16 s = z16 := by
  unfold ghS
  rw [show nv z16 0 8 = 0 by decide +kernel, show nv z16 8 8 = 0 by decide +kernel, gSum_zero]
  decide +kernel
/-- Seals and opens by the form alone. -/
theorem gcm_ok {key nonce aad s : ByteArray} (h : gcmOk key nonce aad s 0 = true) : gcmS key nonce aad s = sealS key nonce aad s ∧ gcmE key nonce aad s = 0 := by
  unfold gcmS gcmE; rw [h]; exact ⟨rfl, rfl⟩
theorem gcm_no {key nonce aad s : ByteArray} (h : gcmOk key nonce aad s 0 = false) : gcmS key nonce aad s = ⟨#[]⟩ ∧ gcmE key nonce aad s = 500 := by
  unfold gcmS gcmE; rw [h]; exact ⟨rfl, rfl⟩
theorem gcmOk_of {key nonce aad s : ByteArray} {more : Nat} (hk : key.size = 16 ∨ key.size = 32) (hn : nonce.size = 12) (ha : aad.size ≤ 65536) (hs : s.size ≤ 65536 + more) : gcmOk key nonce aad s more = true := by
  unfold gcmOk keyOk
  rcases hk with hk | hk <;> simp [hk, hn, ha, hs]
theorem gcmOk_iff (key nonce aad s : ByteArray) (more : Nat) : gcmOk key nonce aad s more = true ↔ (key.size = 16 ∨ key.size = 32) ∧ nonce.size = 12 ∧ aad.size ≤ 65536 ∧ s.size ≤ 65536 + more := by
  unfold gcmOk keyOk; simp
theorem open_no {key nonce aad s : ByteArray} (h : gcmOk key nonce aad s 16 = false) : openS key nonce aad s = ⟨#[]⟩ ∧ openE key nonce aad s = 500 := by
  have o : openB key nonce aad s = false := by unfold openB; rw [h]; rfl
  unfold openS openE; rw [o, h]; exact ⟨rfl, rfl⟩
theorem open_short {key nonce aad s : ByteArray} (h : gcmOk key nonce aad s 16 = true) (hs : s.size < 16) : openS key nonce aad s = ⟨#[]⟩ ∧ openE key nonce aad s = 501 := by
  have o : openB key nonce aad s = false := by unfold openB; rw [decide_eq_false (show ¬ 16 ≤ s.size by omega)]; simp
  unfold openS openE; rw [o, h]; exact ⟨rfl, rfl⟩
theorem hash_ok {h s : ByteArray} (hh : h.size = 16) (hs : s.size % 16 = 0) : ghashS h s = ghS h s ∧ ghashE h s = 0 := by
  have o : ghOk h s = true := by unfold ghOk; simp [hh, hs]
  unfold ghashS ghashE; rw [o]; exact ⟨rfl, rfl⟩
theorem hash_no {h s : ByteArray} (n : ¬ (h.size = 16 ∧ s.size % 16 = 0)) : ghashS h s = ⟨#[]⟩ ∧ ghashE h s = 500 := by
  have o : ghOk h s = false := by
    cases hk : ghOk h s with
    | false => rfl
    | true => exact absurd (by simpa [ghOk] using hk) n
  unfold ghashS ghashE; rw [o]; exact ⟨rfl, rfl⟩
end Go.Proofs.Gcm
