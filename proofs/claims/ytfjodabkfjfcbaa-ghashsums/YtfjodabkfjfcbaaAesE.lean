/-
  AES as plain functions, by lists, so that the kernel can evaluate it; two published blocks.
-/
import Derived.Test.YtfjodabkfjfcbaaAesN
import Derived.KernelRfl
namespace Go.Proofs.Aes
open Go.RowKit
def toL (f : Nat → Nat) (n : Nat) : List Nat := (List.range n).map f
def ofL (l : List Nat) : Nat → Nat := fun i => l.getD i 0
theorem ofL_toL (f : Nat → Nat) (n i : Nat) (h : i < n) : ofL (toL f n) i = f i := by
  unfold ofL toL; rw [List.getD_eq_getElem?_getD, List.getElem?_map, List.getElem?_range h]; rfl
def rndL (wk : Nat → Nat) (n : Nat) (x : Nat → Nat) : Nat → List Nat
  | 0 => toL (fun i => x i ^^^ wk i) 16
  | r + 1 => toL (addS wk (r + 1) (ofL (if r + 1 < n then toL (mixS (ofL (toL (subS (ofL (rndL wk n x r))) 16))) 16 else toL (subS (ofL (rndL wk n x r))) 16))) 16
theorem subS_congr {x y : Nat → Nat} (h : ∀ i, i < 16 → x i = y i) (i : Nat) : subS x i = subS y i := by
  unfold subS; rw [h _ (Nat.mod_lt _ (by decide))]
theorem mixS_congr {x y : Nat → Nat} (h : ∀ i, i < 16 → x i = y i) (i : Nat) (hi : i < 16) : mixS x i = mixS y i := by
  unfold mixS allC
  rw [h i hi, h (4 * (i / 4)) (by omega), h (4 * (i / 4) + 1) (by omega), h (4 * (i / 4) + 2) (by omega), h (4 * (i / 4) + 3) (by omega), h (4 * (i / 4) + (i % 4 + 1) % 4) (by omega)]
theorem rndL_eq {wk wk' : Nat → Nat} (n : Nat) (x : Nat → Nat) (hw : ∀ t, t < 16 * (n + 1) → wk' t = wk t) (r : Nat) (hr : r ≤ n) (i : Nat) (hi : i < 16) : ofL (rndL wk' n x r) i = rndS wk n x r i := by
  induction r generalizing i with
  | zero =>
    show ofL (toL (fun i => x i ^^^ wk' i) 16) i = x i ^^^ wk i
    rw [ofL_toL _ _ _ hi, hw i (by omega)]
  | succ r ih =>
    have hs : ∀ i, i < 16 → ofL (toL (subS (ofL (rndL wk' n x r))) 16) i = subS (rndS wk n x r) i := fun i hi => by
      rw [ofL_toL _ _ _ hi]; exact subS_congr (fun j hj => ih (by omega) j hj) i
    show ofL (toL (addS wk' (r + 1) _) 16) i = addS wk (r + 1) _ i
    rw [ofL_toL _ _ _ hi]
    unfold addS
    rw [hw (16 * (r + 1) + i) (by omega)]
    congr 1
    by_cases hm : r + 1 < n
    · rw [if_pos hm, if_pos hm, ofL_toL _ _ _ hi]
      exact mixS_congr hs i hi
    · rw [if_neg hm, if_neg hm]
      exact hs i hi
def exL (k : Nat) (key : ByteArray) : Nat → List Nat
  | 0 => toL (byt key) (4 * k)
  | m + 1 => exL k key m ++ toL (stepW k (k + m) (ofL (exL k key m))) 4
theorem exL_length (k : Nat) (key : ByteArray) (m : Nat) : (exL k key m).length = 4 * (k + m) := by
  induction m with
  | zero => simp [exL, toL]
  | succ m ih => simp [exL, toL, ih]; omega
theorem stepW_congr {f g : Nat → Nat} (k i j : Nat) (hk : 0 < k) (hi : k ≤ i) (hj : j < 4) (h : ∀ t, t < 4 * i → f t = g t) : stepW k i f j = stepW k i g j := by
  unfold stepW tmpW
  rw [h (4 * (i - 1) + 1) (by omega), h (4 * (i - 1) + (j + 1) % 4) (by omega), h (4 * (i - 1) + j) (by omega), h (4 * (i - k) + j) (by omega)]
theorem exL_eq (k : Nat) (key : ByteArray) (hk : 0 < k) (m t : Nat) (ht : t < 4 * (k + m)) : ofL (exL k key m) t = exS k key m t := by
  induction m generalizing t with
  | zero => exact ofL_toL _ _ _ ht
  | succ m ih =>
    show (exL k key m ++ toL (stepW k (k + m) (ofL (exL k key m))) 4).getD t 0 = if t / 4 = k + m then stepW k (k + m) (exS k key m) (t % 4) else exS k key m t
    have hl := exL_length k key m
    by_cases h : t / 4 = k + m
    · rw [if_pos h, List.getD_eq_getElem?_getD, List.getElem?_append_right (by omega), ← List.getD_eq_getElem?_getD, hl, show t - 4 * (k + m) = t % 4 by omega]
      show ofL (toL _ 4) (t % 4) = _
      rw [ofL_toL _ _ _ (by omega)]
      exact stepW_congr k (k + m) (t % 4) hk (by omega) (by omega) (fun t ht => ih t ht)
    · rw [if_neg h, List.getD_eq_getElem?_getD, List.getElem?_append_left (by omega), ← List.getD_eq_getElem?_getD]
      exact ih t (by omega)
def encL (k : Nat) (key s : ByteArray) : ByteArray := strOfNums ((rndL (ofL (exL k key (3 * k + 28))) (k + 6) (byt s) (k + 6)).map fun i : Nat => (i : Int))
theorem rndL_length (wk : Nat → Nat) (n : Nat) (x : Nat → Nat) (r : Nat) : (rndL wk n x r).length = 16 := by
  cases r <;> simp [rndL, toL]
theorem list16 (l : List Nat) (f : Nat → Nat) (hl : l.length = 16) (h : ∀ i, i < 16 → ofL l i = f i) : ((List.range 16).map fun i => (f i : Int)) = l.map fun i : Nat => (i : Int) := by
  apply List.ext_getElem?
  intro i
  by_cases hi : i < 16
  · have e := h i hi
    unfold ofL at e
    rw [List.getD_eq_getElem?_getD, List.getElem?_eq_getElem (by omega)] at e
    rw [List.getElem?_map, List.getElem?_map, List.getElem?_range hi, List.getElem?_eq_getElem (by omega)]
    show some ((f i : Nat) : Int) = some ((l[i] : Nat) : Int)
    rw [← e]; rfl
  · rw [List.getElem?_eq_none (by simp; omega), List.getElem?_eq_none (by simp; omega)]
theorem encL_eq (k : Nat) (key s : ByteArray) (hk : 0 < k) (h : key.size / 4 = k) : encS key s = encL k key s := by
  unfold encS encL ciphS
  rw [h]
  generalize hn : k + 6 = n
  have hx : ∀ t, t < 16 * (n + 1) → ofL (exL k key (3 * k + 28)) t = exS k key (3 * k + 28) t := fun t ht => exL_eq k key hk _ t (by omega)
  exact congrArg strOfNums (list16 _ _ (rndL_length _ _ _ _) (rndL_eq n (byt s) hx n (Nat.le_refl _)))
def k16 : ByteArray := ⟨#[0, 1, 2, 3, 4, 5, 6, 7, 8, 9, 10, 11, 12, 13, 14, 15]⟩
def k32 : ByteArray := ⟨#[0, 1, 2, 3, 4, 5, 6, 7, 8, 9, 10, 11, 12, 13, 14, 15, 16, 17, 18, 19, 20, 21, 22, 23, 24, 25, 26, 27, 28, 29, 30, 31]⟩
def p16 : ByteArray := ⟨#[0, 17, 34, 51, 68, 85, 102, 119, 136, 153, 170, 187, 204, 221, 238, 255]⟩
def c16 : ByteArray := ⟨#[105, 196, 224, 216, 106, 123, 4, 48, 216, 205, 183, 128, 112, 180, 197, 90]⟩
def c32 : ByteArray := ⟨#[142, 162, 183, 202, 81, 103, 69, 191, 234, 252, 73, 144, 75, 73, 96, 137]⟩
set_option maxRecDepth 100000 in
theorem enc_16 : encS k16 p16 = c16 := (encL_eq 4 k16 p16 (by decide) rfl).trans (by kernel_rfl)
set_option maxRecDepth 100000 in
theorem enc_32 : encS k32 p16 = c32 := (encL_eq 8 k32 p16 (by decide) rfl).trans (by kernel_rfl)
end Go.Proofs.Aes
