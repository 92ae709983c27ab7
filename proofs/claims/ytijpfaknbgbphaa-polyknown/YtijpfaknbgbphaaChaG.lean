/-
  ChaCha20 as plain functions: twice is as nothing, texts in parts, noughts; a published block by the kernel.
-/
import Derived.Test.YtijpfaknbgbphaaChaO
import Derived.KernelRfl
namespace Go.Proofs.Cha
open Go.RowKit
open Go.Proofs.Aes (byt byt_lt get_byt)
theorem byt_nums (f : Nat → Nat) (m t : Nat) (h : t < m) (hf : f t < 256) : byt (strOfNums ((List.range m).map fun t => (f t : Int))) t = f t := by
  unfold byt strOfNums
  rw [List.getD_eq_getElem?_getD]
  simp [h]
  omega
/-- Two texts of one length whose bytes are the same. -/
theorem text_ext {a b : ByteArray} (hs : a.size = b.size) (h : ∀ t, t < a.size → byt a t = byt b t) : a = b := by
  apply ByteArray.ext
  apply Array.ext hs
  intro i h1 h2
  have e := h i h1
  rw [← get_byt a i h1, ← get_byt b i h2] at e
  exact UInt8.toNat_inj.1 e
theorem strB_lt (key : ByteArray) (cnt : Nat) (nonce s : ByteArray) (t : Nat) : strB key cnt nonce s t < 256 := Aes.xor8_lt (byt_lt _ _) (byt_lt _ _)
theorem strS_byt (key : ByteArray) (cnt : Nat) (nonce s : ByteArray) (t : Nat) (h : t < s.size) : byt (strS key cnt nonce s) t = strB key cnt nonce s t := byt_nums _ _ _ h (strB_lt _ _ _ _ _)
/-- Twice is as nothing. -/
theorem strS_twice (key : ByteArray) (cnt : Nat) (nonce s : ByteArray) : strS key cnt nonce (strS key cnt nonce s) = s := by
  refine text_ext (by rw [strS_size, strS_size]) fun t ht => ?_
  rw [strS_size, strS_size] at ht
  rw [strS_byt _ _ _ _ _ (by rw [strS_size]; exact ht)]
  unfold strB
  rw [strS_byt _ _ _ _ _ ht]
  unfold strB
  rw [Nat.xor_assoc, Nat.xor_self, Nat.xor_zero]
theorem byt_left (a b : ByteArray) (t : Nat) (h : t < a.size) : byt (a ++ b) t = byt a t := by
  rw [← get_byt (a ++ b) t (by rw [ByteArray.size_append]; omega), ← get_byt a t h]
  congr 1
  exact ByteArray.getElem_append_left h
theorem byt_right (a b : ByteArray) (t : Nat) (h : a.size ≤ t) (h' : t < a.size + b.size) : byt (a ++ b) t = byt b (t - a.size) := by
  rw [← get_byt (a ++ b) t (by rw [ByteArray.size_append]; omega), ← get_byt b (t - a.size) (by omega)]
  congr 1
  exact ByteArray.getElem_append_right h
theorem byt_cut (s : ByteArray) (a b t : Nat) (h : a + t < b) (hb : b ≤ s.size) : byt (s.extract a b) t = byt s (a + t) := by
  rw [← get_byt (s.extract a b) t (by rw [ByteArray.size_extract]; omega), ← get_byt s (a + t) (by omega)]
  congr 1
  exact ByteArray.getElem_extract _
/-- A text in parts at a block's end. -/
theorem strS_parts (key : ByteArray) (cnt : Nat) (nonce s : ByteArray) (b : Nat) (h : 64 * b ≤ s.size) :
    strS key cnt nonce (s.extract 0 (64 * b)) ++ strS key ((cnt + b) % 4294967296) nonce (s.extract (64 * b) s.size) = strS key cnt nonce s := by
  have z1 : (s.extract 0 (64 * b)).size = 64 * b := by rw [ByteArray.size_extract]; omega
  have z2 : (s.extract (64 * b) s.size).size = s.size - 64 * b := by rw [ByteArray.size_extract]; omega
  have zz : (strS key cnt nonce (s.extract 0 (64 * b)) ++ strS key ((cnt + b) % 4294967296) nonce (s.extract (64 * b) s.size)).size = s.size := by
    rw [ByteArray.size_append, strS_size, strS_size, z1, z2]; omega
  refine text_ext (by rw [zz, strS_size]) fun t ht => ?_
  rw [zz] at ht
  rw [strS_byt _ _ _ s t ht]
  by_cases hl : t < 64 * b
  · rw [byt_left _ _ _ (by rw [strS_size, z1]; exact hl), strS_byt _ _ _ _ _ (by rw [z1]; exact hl)]
    unfold strB
    rw [byt_cut s 0 (64 * b) t (by omega) h, Nat.zero_add]
  · rw [byt_right _ _ _ (by rw [strS_size, z1]; omega) (by rw [strS_size, strS_size, z1, z2]; omega), strS_size, z1, strS_byt _ _ _ _ _ (by rw [z2]; omega)]
    unfold strB
    rw [byt_cut s (64 * b) s.size (t - 64 * b) (by omega) (Nat.le_refl _), show 64 * b + (t - 64 * b) = t by omega, show (t - 64 * b) % 64 = t % 64 by omega]
    congr 3
    rw [show t / 64 = b + (t - 64 * b) / 64 by omega]
    omega
/-- The blocks, one behind the other. -/
def blocksS (key : ByteArray) (cnt : Nat) (nonce : ByteArray) : Nat → ByteArray
  | 0 => ⟨#[]⟩
  | i + 1 => blocksS key cnt nonce i ++ chaS key ((cnt + i) % 4294967296) nonce
theorem blocksS_size (key : ByteArray) (cnt : Nat) (nonce : ByteArray) (i : Nat) : (blocksS key cnt nonce i).size = 64 * i := by
  induction i with
  | zero => rfl
  | succ i ih => show (blocksS key cnt nonce i ++ _).size = _; rw [ByteArray.size_append, ih, chaS_size]; omega
theorem blocksS_byt (key : ByteArray) (cnt : Nat) (nonce : ByteArray) (i t : Nat) (h : t < 64 * i) : byt (blocksS key cnt nonce i) t = byt (chaS key ((cnt + t / 64) % 4294967296) nonce) (t % 64) := by
  induction i with
  | zero => omega
  | succ i ih =>
    show byt (blocksS key cnt nonce i ++ _) t = _
    by_cases hl : t < 64 * i
    · rw [byt_left _ _ _ (by rw [blocksS_size]; exact hl), ih hl]
    · rw [byt_right _ _ _ (by rw [blocksS_size]; omega) (by rw [blocksS_size, chaS_size]; omega), blocksS_size, show t / 64 = i by omega, show t % 64 = t - 64 * i by omega]
theorem strS_noughts (key : ByteArray) (cnt : Nat) (nonce s : ByteArray) (m : Nat) (hs : s.size = 64 * m) (h0 : ∀ t, t < s.size → byt s t = 0) : strS key cnt nonce s = blocksS key cnt nonce m := by
  refine text_ext (by rw [strS_size, blocksS_size, hs]) fun t ht => ?_
  rw [strS_size] at ht
  rw [strS_byt _ _ _ _ _ ht, blocksS_byt _ _ _ _ _ (by omega)]
  unfold strB
  rw [h0 t ht, Nat.zero_xor]
/-- By lists, for the kernel. -/
def toL (f : Nat → Nat) (n : Nat) : List Nat := (List.range n).map f
def ofL (l : List Nat) : Nat → Nat := fun i => l.getD i 0
theorem ofL_toL (f : Nat → Nat) (n i : Nat) (h : i < n) : ofL (toL f n) i = f i := by
  unfold ofL toL; rw [List.getD_eq_getElem?_getD, List.getElem?_map, List.getElem?_range h]; rfl
theorem put_congr {X Y : Nat → Nat} (h : ∀ t, t < 16 → X t = Y t) {v v' : Nat} (hv : v = v') (i t : Nat) (ht : t < 16) : put X i v t = put Y i v' t := by
  unfold put; rw [hv, h t ht]
theorem q1_congr {X Y : Nat → Nat} (h : ∀ t, t < 16 → X t = Y t) (a b : Nat) (ha : a < 16) (hb : b < 16) (t : Nat) (ht : t < 16) : q1 X a b t = q1 Y a b t :=
  put_congr h (by rw [h a ha, h b hb]) a t ht
theorem q2_congr {X Y : Nat → Nat} (h : ∀ t, t < 16 → X t = Y t) (d a k : Nat) (hd : d < 16) (ha : a < 16) (t : Nat) (ht : t < 16) : q2 X d a k t = q2 Y d a k t :=
  put_congr h (by rw [h a ha, h d hd]) d t ht
theorem quart_congr {X Y : Nat → Nat} (h : ∀ t, t < 16 → X t = Y t) (a b c d : Nat) (ha : a < 16) (hb : b < 16) (hc : c < 16) (hd : d < 16) (t : Nat) (ht : t < 16) : quart X a b c d t = quart Y a b c d t := by
  unfold quart
  have s1 := q1_congr h a b ha hb
  have s2 := q2_congr s1 d a 16 hd ha
  have s3 := q1_congr s2 c d hc hd
  have s4 := q2_congr s3 b c 12 hb hc
  have s5 := q1_congr s4 a b ha hb
  have s6 := q2_congr s5 d a 8 hd ha
  have s7 := q1_congr s6 c d hc hd
  exact q2_congr s7 b c 7 hb hc t ht
def colL (l : List Nat) : Nat → List Nat
  | 0 => l
  | i + 1 => toL (quart (ofL (colL l i)) i (4 + i) (8 + i) (12 + i)) 16
def diaL (l : List Nat) : Nat → List Nat
  | 0 => l
  | i + 1 => toL (quart (ofL (diaL l i)) i (4 + (i + 1) % 4) (8 + (i + 2) % 4) (12 + (i + 3) % 4)) 16
def rndL (l : List Nat) : Nat → List Nat
  | 0 => l
  | r + 1 => diaL (colL (rndL l r) 4) 4
theorem colL_eq {X : Nat → Nat} {l : List Nat} (h : ∀ t, t < 16 → ofL l t = X t) (i : Nat) (hi : i ≤ 4) (t : Nat) (ht : t < 16) : ofL (colL l i) t = colR X i t := by
  induction i generalizing t with
  | zero => exact h t ht
  | succ i ih =>
    show ofL (toL _ 16) t = quart _ _ _ _ _ t
    rw [ofL_toL _ _ _ ht]
    exact quart_congr (fun t ht => ih (by omega) t ht) _ _ _ _ (by omega) (by omega) (by omega) (by omega) t ht
theorem diaL_eq {X : Nat → Nat} {l : List Nat} (h : ∀ t, t < 16 → ofL l t = X t) (i : Nat) (hi : i ≤ 4) (t : Nat) (ht : t < 16) : ofL (diaL l i) t = diaR X i t := by
  induction i generalizing t with
  | zero => exact h t ht
  | succ i ih =>
    show ofL (toL _ 16) t = quart _ _ _ _ _ t
    rw [ofL_toL _ _ _ ht]
    exact quart_congr (fun t ht => ih (by omega) t ht) _ _ _ _ (by omega) (by omega) (by omega) (by omega) t ht
theorem rndL_eq {X : Nat → Nat} {l : List Nat} (h : ∀ t, t < 16 → ofL l t = X t) (r t : Nat) (ht : t < 16) : ofL (rndL l r) t = rndR X r t := by
  induction r generalizing t with
  | zero => exact h t ht
  | succ r ih => exact diaL_eq (fun t ht => colL_eq (fun t ht => ih t ht) 4 (by decide) t ht) 4 (by decide) t ht
def z32 : ByteArray := ⟨#[0, 0, 0, 0, 0, 0, 0, 0, 0, 0, 0, 0, 0, 0, 0, 0, 0, 0, 0, 0, 0, 0, 0, 0, 0, 0, 0, 0, 0, 0, 0, 0]⟩
def z12 : ByteArray := ⟨#[0, 0, 0, 0, 0, 0, 0, 0, 0, 0, 0, 0]⟩
set_option maxRecDepth 100000 in
theorem word0 : add32 (ini z32 0 z12 0) (ofL (rndL (toL (ini z32 0 z12) 16) 10) 0) = 2917185654 := by kernel_rfl
theorem first (t : Nat) (h : t < 4) : chaB (ini z32 0 z12) t = 2917185654 / 256 ^ t % 256 := by
  unfold chaB
  rw [show t / 4 = 0 by omega, show t % 4 = t by omega, ← rndL_eq (X := ini z32 0 z12) (l := toL (ini z32 0 z12) 16) (fun t ht => ofL_toL _ _ _ ht) 10 0 (by decide), word0]
theorem known (t : Nat) (h : t < 4) : byt (chaS z32 0 z12) t = 2917185654 / 256 ^ t % 256 := by
  unfold chaS
  rw [byt_nums _ 64 t (by omega) (by rw [first t h]; exact Nat.mod_lt _ (by decide)), first t h]
theorem known_0 : byt (chaS z32 0 z12) 0 = 118 := by rw [known 0 (by decide)]
theorem known_1 : byt (chaS z32 0 z12) 1 = 184 := by rw [known 1 (by decide)]
end Go.Proofs.Cha
