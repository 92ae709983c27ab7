/-
  ChaCha20 as plain functions: twice is as nothing, texts in parts, noughts; a published block by the kernel.
-/
import Derived.Test.YtljhenjbjondkaaJoag
import Derived.KernelRfl
import Derived.Test.YtljhenjbjondkaaJoae
namespace Go.Proofs.Cha
open Go.RowKit
open Go.Proofs.Aes (byt byt_lt get_byt)
theorem byt_nums (f : Nat → Nat) (m t : Nat) (h : t < m) (hf : f t < 256) : byt (strOfNums ((List.range m).map fun t => (f t : Int))) t = f t := by
  unfold byt strOfNums
  rw [List.getD_eq_getElem?_getD]
  simp [h]
  omega
/-- Two texts of one length whose bytes are the same. -/
theorem text_ext {a b : ByteArray} (hs : a.size = b.size) (h : ∀ t, t < a.size → byt a t = byt b t) : a = b := by
  apply ByteArray.ext
  apply Array.ext hs
  intro i h1 h2
  have e := h i h1
  rw [← get_byt a i h1, ← get_byt b i h2] at e
  exact UInt8.toNat_inj.1 e
theorem strB_lt (key : ByteArray) (cnt : Nat) (nonce s : ByteArray) (t : Nat) : strB key cnt nonce s t < 256 := Aes.xor8_lt (byt_lt _ _) (byt_lt _ _)
theorem strS_byt (key : ByteArray) (cnt : Nat) (nonce s : ByteArray) (t : Nat) (h : t < s.size) : byt (strS key cnt nonce s) t = strB key cnt nonce s t := byt_nums _ _ _ h (strB_lt _ _ _ _ _)
/-- Twice is as nothing. -/
theorem strS_twice (key : ByteArray) (cnt : Nat) (nonce s : ByteArray) : strS key cnt nonce (strS key cnt nonce s) = s := by
  refine text_ext (by rw [strS_size, strS_size]) fun t ht => ?_
  rw [strS_size, strS_size] at ht
  rw [strS_byt _ _ _ _ _ (by rw [strS_size]; exact ht)]
  unfold strB
  rw [strS_byt _ _ _ _ _ ht]
  unfold strB
  rw [Nat.xor_assoc, Nat.xor_self, Nat.xor_zero]
theorem byt_left (a b : ByteArray) (t : Nat) (h : t < a.size) : byt (a ++ b) t = byt a t := by
  rw [← get_byt (a ++ b) t (by rw [ByteArray.size_append]; omega), ← get_byt a t h]
  congr 1
  exact ByteArray.getElem_append_left h
theorem byt_right (a b : ByteArray) (t : Nat) (h : a.size ≤ t) (h' : t < a.size + b.size) : byt (a ++ b) t = byt b (t - a.size) := by
  rw [← get_byt (a ++ b) t (by rw [ByteArray.size_append]; omega), ← get_byt b (t - a.size) (by omega)]
  congr 1
  exact ByteArray.getElem_append_right h
theorem byt_cut (s : ByteArray) (a b t : Nat) (h : a + t < b) (hb : b ≤ s.size) : byt (s.extract a b) t = byt s (a + t) := by
  rw [← get_byt (s.extract a b) t (by rw [ByteArray.size_extract]; omega), ← get_byt s (a + t) (by omega)]
  congr 1
  exact ByteArray.getElem_extract _
/-- A text in parts at a block's end. -/
theorem strS_parts (key : ByteArray) (cnt : Nat) (nonce s : ByteArray) (b : Nat) (h : 64 * b ≤ s.size) :
    strS key cnt nonce (s.extract 0 (64 * b)) ++ strS key ((cnt + b) % 4294967296) nonce (s.extract (64 * b) s.size) = strS key cnt nonce s := by
  have z1 : (s.extract 0 (64 * b)).size = 64 * b := by rw [ByteArray.size_extract]; omega
  have z2 : (s.extract (64 * b) s.size).size = s.size - 64 * b := by rw [ByteArray.size_extract]; omega
  have zz : (strS key cnt nonce (s.extract 0 (64 * b)) ++ strS key ((cnt + b) % 4294967296) nonce (s.extract (64 * b) s.size)).size = s.size := by
    rw [ByteArray.size_append, strS_size, strS_size, z1, z2]; omega
  refine text_ext (by rw [zz, strS_size]) fun t ht => ?_
  rw [zz] at ht
  rw [strS_byt _ _ _ s t ht]
  by_cases hl : t < 64 * b
  · rw [byt_left _ _ _ (by rw [strS_size, z1]; exact hl), strS_byt _ _ _ _ _ (by rw [z1]; exact hl)]
    unfold strB
    rw [byt_cut s 0 (64 * b) t (by omega) h, Nat.zero_add]
  · rw [byt_right _ _ _ (by rw [strS_size, z1]; omega) (by rw [strS_size, strS_size, z1, z2]; omega), strS_size, z1, strS_byt _ _ _ _ _ (by rw [z2]; omega)]
    unfold strB
    rw [byt_cut s (64 * b) s.size (t - 64 * b) (by omega) (Nat.le_refl _), show 64 * b + (t - 64 * b) = t by omega, show (t - 64 * b) % 64 = t % 64 by omega]
    congr 3
    rw [show t / 64 = b + (t - 64 * b) / 64 by omega]
    omega
/-- The blocks, one behind the other. -/
def blocksS (key : ByteArray) (cnt : Nat) (nonce : ByteArray) : Nat → ByteArray
  | 0 => ⟨#[]⟩
  | i + 1 => blocksS key cnt nonce i ++ chaS key ((cnt + i) % 4294967296) nonce
theorem blocksS_size (key : ByteArray) (cnt : Nat) (nonce : ByteArray) (i : Nat) : (blocksS key cnt nonce i).size = 64 * i := by
  induction i with
  | zero => rfl
  | succ i ih => show (blocksS key cnt nonce i ++ _).size = _; rw [ByteArray.size_append, ih, chaS_size]; omega
theorem blocksS_byt (key : ByteArray) (cnt : Nat) (nonce : ByteArray) (i t : Nat) (h : t < 64 * i) : byt (blocksS key cnt nonce i) t = byt (chaS key ((cnt + t / 64) % 4294967296) nonce) (t % 64) := by
  induction i with
  | zero => omega
  | succ i ih =>
    show byt (blocksS key cnt nonce i ++ _) t = _
    by_cases hl : t < 64 * i
    · rw [byt_left _ _ _ (by rw [blocksS_size]; exact hl), ih hl]
    · rw [byt_right _ _ _ (by rw [blocksS_size]; omega) (by rw [blocksS_size, chaS_size]; omega), blocksS_size, show t / 64 = i by omega, show t % 64 = t - 64 * i by omega]
theorem strS_noughts (key : ByteArray) (cnt : Nat) (nonce s : ByteArray) (m : Nat) (hs : s.size = 64 * m) (h0 : ∀ t, t < s.size → byt s t = 0) : strS key cnt nonce s = blocksS key cnt nonce m := by
  refine text_ext (by rw [strS_size, blocksS_size, hs]) fun t ht => ?_
  rw [strS_size] at ht
  rw [strS_byt _ _ _ _ _ ht, blocksS_byt _ _ _ _ _ (by omega)]
  unfold strB
  rw [h0 t ht, Nat.zero_xor]
/-- By lists, for the kernel. -/
def toL (f : Nat → Nat) (n : Nat) : List Nat := (List.range n).map f
def ofL (l : List Nat) : Nat → Nat := fun i => l.getD i 0
theorem ofL_toL (f : Nat → Nat) (n i : Nat) (h : i < n) : ofL (toL f n) i = f i := by
  unfold ofL toL; rw [List.getD_eq_getElem?_getD, List.getElem?_map, List.getElem?_range h]; rfl
theorem put_congr {X Y : Nat → Nat} (h : ∀ t, t < 16 → X t = Y t) {v v' : Nat} (hv : v = v') (i t : Nat) (ht : t < 16) : put X i v t = put Y i v' t := by
  unfold put; rw [hv, h t ht]
theorem q1_congr {X Y : Nat → Nat} (h : ∀ t, t < 16 → X t = Y t) (a b : Nat) (ha : a < 16) (hb : b < 16) (t : Nat) (ht : t < 16) : q1 X a b t = q1 Y a b t :=
  put_congr h (by rw [h a ha, h b hb]) a t ht
theorem q2_congr {X Y : Nat → Nat} (h : ∀ t, t < 16 → X t = Y t) (d a k : Nat) (hd : d < 16) (ha : a < 16) (t : Nat) (ht : t < 16) : q2 X d a k t = q2 Y d a k t :=
  put_congr h (by rw [h a ha, h d hd]) d t ht
theorem quart_congr {X Y : Nat → Nat} (h : ∀ t, t < 16 → X t = Y t) (a b c d : Nat) (ha : a < 16) (hb : b < 16) (hc : c < 16) (hd : d < 16) (t : Nat) (ht : t < 16) : quart X a b c d t = quart Y a b c d t := by
  unfold quart
  have s1 := q1_congr h a b ha hb
  have s2 := q2_congr s1 d a 16 hd ha
  have s3 := q1_congr s2 c d hc hd
  have s4 := q2_congr s3 b c 12 hb hc
  have s5 := q1_congr s4 a b ha hb
  have s6 := q2_congr s5 d a 8 hd ha
  have s7 := q1_congr s6 c d hc hd
  exact q2_congr s7 b c 7 hb hc t ht
def colL (l : List Nat) : Nat → List Nat
  | 0 => l
  | i + 1 => toL (quart (ofL (colL l i)) i (4 + i) (8 + i) (12 + i)) 16
def diaL (l : List Nat) : Nat → List Nat
  | 0 => l
  | i + 1 => toL (quart (ofL (diaL l i)) i (4 + (i + 1) % 4) (8 + (i + 2) % 4) (12 + (i + 3) % 4)) 16
def rndL (l : List Nat) : Nat → List Nat
  | 0 => l
  | r + 1 => diaL (colL (rndL l r) 4) 4
theorem colL_eq {X : Nat → Nat} {l : List Nat} (h : ∀ t, t < 16 → ofL l t = X t) (i : Nat) (hi : i ≤ 4) (t : Nat) (ht : t < 16) : ofL (colL l i) t = colR X i t := by
  induction i generalizing t with
  | zero => exact h t ht
  | succ i ih =>
    show ofL (toL _ 16) t = quart _ _ _ _ _ t
    rw [ofL_toL _ _ _ ht]
    exact quart_congr (fun t ht => ih (by omega) t ht) _ _ _ _ (by omega) (by omega) (by omega) (by omega) t ht
theorem diaL_eq {X : Nat → Nat} {l : List Nat} (h : ∀ t, t < 16 → ofL l t = X t) (i : Nat) (hi : i ≤ 4) (t : Nat) (ht : t < 16) : ofL (diaL l i) t = diaR X i t := by
  induction i generalizing t with
  | zero => exact h t ht
  | succ i ih =>
    show ofL (toL _ 16) t = quart _ _ _ _ _ t
    rw [ofL_toL _ _ _ ht]
    exact quart_congr (fun t ht => ih (by omega) t ht) _ _ _ _ (by omega) (by omega) (by omega) (by omega) t ht
theorem rndL_eq {X : Nat → Nat} {l : List Nat} (h : ∀ t, t < 16 → ofL l t = X t) (r t : Nat) (ht : t < 16) : ofL (rndL l r) t = rndR X r t := by
  induction r generalizing t with
  | zero => exact h t ht
  | succ r ih => exact diaL_eq (fun t ht => colL_eq (fun t ht => ih t ht) 4 (by decide) t ht) 4 (by decide) t ht
def z32 : ByteArray := ⟨#[0, 0, 0, 0, 0, 0, 0, 0, 0, 0, 0, 0, 0, 0, 0, 0, 0, 0, 0, 0, 0, 0, 0, 0, 0, 0, 0, 0, 0, 0, 0, 0]⟩
def z12 : ByteArray := ⟨#[0, 0, 0, 0, 0, 0, 0, 0, 0, 0, 0, 0]⟩
set_option maxRecDepth 100000 in
theorem word0 : add32 (ini z32 0 z12 0) (ofL (rndL (toL (ini z32 0 z12) 16) 10) 0) = 2917185654 := by kernel_rfl
theorem first (t : Nat) (h : t < 4) : chaB (ini z32 0 z12) t = 2917185654 / 256 ^ t % 256 := by
  unfold chaB
  rw [show t / 4 = 0 by omega, show t % 4 = t by omega, ← rndL_eq (X := ini z32 0 z12) (l := toL (ini z32 0 z12) 16) (fun t ht => ofL_toL _ _ _ ht) 10 0 (by decide), word0]
theorem known (t : Nat) (h : t < 4) : byt (chaS z32 0 z12) t = 2917185654 / 256 ^ t % 256 := by
  unfold chaS
  rw [byt_nums _ 64 t (by omega) (by rw [first t h]; exact Nat.mod_lt _ (by decide)), first t h]
theorem known_0 : byt (chaS z32 0 z12) 0 = 118 := by rw [known 0 (by decide)]
theorem known_1 : byt (chaS z32 0 z12) 1 = 184 := by rw [known 1 (by decide)]
end Go.Proofs.Cha
/-
  Poly1305 in numbers: a text's blocks and their sum, bounds of the limbs that the document's own answer keeps. Of no program.
-/
namespace Go.Proofs.Pol
open Go.RowKit
open Go.Proofs.Aes (byt byt_lt)
open Go.Proofs.Cha (byt_left byt_right byt_cut text_ext byt_nums)
/-- The factor's bytes; the factor; the pad. -/
def maskL : List Nat := [255, 255, 255, 15, 252, 255, 255, 15, 252, 255, 255, 15, 252, 255, 255, 15]
def maskB (i : Nat) : Nat := maskL.getD i 0
def rB (key : ByteArray) (i : Nat) : Nat := byt key i &&& maskB i
theorem rB_lt (key : ByteArray) (i : Nat) : rB key i < 256 := Nat.lt_of_le_of_lt Nat.and_le_left (byt_lt key i)
def rN (key : ByteArray) : Nat := leB (rB key) 16
def padN (key : ByteArray) : Nat := leB (fun i => byt key (16 + i)) 16
/-- Block k: how many bytes it has, its number. -/
def blkL (s : ByteArray) (k : Nat) : Nat := min 16 (s.size - 16 * k)
def blkB (s : ByteArray) (k i : Nat) : Nat := byt s (16 * k + i)
theorem blkB_lt (s : ByteArray) (k i : Nat) : blkB s k i < 256 := byt_lt _ _
def blkN (s : ByteArray) (k : Nat) : Nat := leB (blkB s k) (blkL s k) + 256 ^ blkL s k
/-- The sum behind k blocks, from a on; behind all. -/
def runK (r a : Nat) (s : ByteArray) : Nat → Nat
  | 0 => a
  | k + 1 => (runK r a s k + blkN s k) * r % p130
def runN (r a : Nat) (s : ByteArray) : Nat := runK r a s ((s.size + 15) / 16)
/-- A tag. -/
def macS (key s : ByteArray) : ByteArray := tagS (runN (rN key) 0 s) (padN key)
theorem macS_size (key s : ByteArray) : (macS key s).size = 16 := tagS_size _ _
theorem p130_pos : 0 < p130 := by unfold p130; decide
theorem runK_lt (r a : Nat) (ha : a < p130) (s : ByteArray) (k : Nat) : runK r a s k < p130 := by
  cases k with
  | zero => exact ha
  | succ k => exact Nat.mod_lt _ p130_pos
theorem runN_lt (r a : Nat) (ha : a < p130) (s : ByteArray) : runN r a s < p130 := runK_lt r a ha s _
theorem rN_lt (key : ByteArray) : rN key < 340282366920938463463374607431768211456 := leB_lt (rB_lt key) 16
theorem padN_lt (key : ByteArray) : padN key < 340282366920938463463374607431768211456 := leB_lt (b := fun i => byt key (16 + i)) (fun _ => byt_lt _ _) 16
theorem padN_cut (key : ByteArray) (h : key.size = 32) : leB (byt (key.extract 16 32)) 16 = padN key := leB_congr 16 fun i hi => byt_cut key 16 32 i (by omega) (by omega)
theorem blkL_le (s : ByteArray) (k : Nat) : blkL s k ≤ 16 := Nat.min_le_left _ _
theorem blkN_lt (s : ByteArray) (k : Nat) : blkN s k < 680564733841876926926749214863536422912 := by
  unfold blkN
  have h1 := leB_lt (blkB_lt s k) (blkL s k)
  have h2 : 256 ^ blkL s k ≤ 256 ^ 16 := Nat.pow_le_pow_right (by decide) (blkL_le s k)
  rw [show (256 : Nat) ^ 16 = 340282366920938463463374607431768211456 from rfl] at h2
  omega
/-- Two texts, the first of whole blocks. -/
theorem blkN_left (x y : ByteArray) (k : Nat) (h : 16 * k + 16 ≤ x.size) : blkN (x ++ y) k = blkN x k := by
  have e1 : blkL (x ++ y) k = 16 := by unfold blkL; rw [ByteArray.size_append]; omega
  have e2 : blkL x k = 16 := by unfold blkL; omega
  unfold blkN
  rw [e1, e2, leB_congr (b := blkB (x ++ y) k) (c := blkB x k) 16 fun i hi => byt_left x y (16 * k + i) (by omega)]
theorem blkN_right (x y : ByteArray) (m k : Nat) (h : x.size = 16 * m) : blkN (x ++ y) (m + k) = blkN y k := by
  have e1 : blkL (x ++ y) (m + k) = blkL y k := by unfold blkL; rw [ByteArray.size_append]; omega
  unfold blkN
  rw [e1]
  have hl : blkL y k ≤ y.size - 16 * k := Nat.min_le_right _ _
  rw [leB_congr (c := blkB y k) (blkL y k) fun i hi => ?_]
  unfold blkB
  rw [byt_right x y _ (by omega) (by omega)]
  congr 1
  omega
theorem run_append (r a : Nat) (x y : ByteArray) (h : x.size % 16 = 0) : runN r a (x ++ y) = runN r (runN r a x) y := by
  obtain ⟨m, hm⟩ : ∃ m, x.size = 16 * m := ⟨x.size / 16, by omega⟩
  have hx : ∀ k, k ≤ m → runK r a (x ++ y) k = runK r a x k := by
    intro k
    induction k with
    | zero => intro _; rfl
    | succ k ih =>
      intro hk
      show (runK r a (x ++ y) k + blkN (x ++ y) k) * r % p130 = (runK r a x k + blkN x k) * r % p130
      rw [ih (by omega), blkN_left x y k (by omega)]
  have hy : ∀ k, runK r a (x ++ y) (m + k) = runK r (runK r a x m) y k := by
    intro k
    induction k with
    | zero => exact hx m (Nat.le_refl _)
    | succ k ih =>
      show (runK r a (x ++ y) (m + k) + blkN (x ++ y) (m + k)) * r % p130 = (runK r (runK r a x m) y k + blkN y k) * r % p130
      rw [ih, blkN_right x y m k hm]
  unfold runN
  rw [ByteArray.size_append, show (x.size + y.size + 15) / 16 = m + (y.size + 15) / 16 by omega, hy, show (x.size + 15) / 16 = m by omega]
/-- Noughts; with noughts to whole blocks. -/
def zS (m : Nat) : ByteArray := Lw.pieceS (fun _ => 0) 0 m
theorem zS_size (m : Nat) : (zS m).size = m := Lw.pieceS_size _ _ _
theorem zS_byt (m t : Nat) (h : t < m) : byt (zS m) t = 0 := Lw.byt_piece _ 0 m t h (fun _ => by decide)
def fillS (s : ByteArray) : ByteArray := s ++ zS ((16 - s.size % 16) % 16)
theorem fillS_size (s : ByteArray) : (fillS s).size = 16 * ((s.size + 15) / 16) := by unfold fillS; rw [ByteArray.size_append, zS_size]; omega
/-- What a seal's tag is made of. -/
def allS (aad c : ByteArray) : ByteArray := fillS aad ++ fillS c ++ litS aad.size ++ litS c.size
/-- The limbs that the document's own answer keeps between blocks. -/
def Fine (h : Nat → Nat) : Prop := h 0 < 67108874 ∧ ∀ i, 0 < i → h i < 67108864
theorem Fine.all {h : Nat → Nat} (f : Fine h) (i : Nat) : h i < 67108874 := by
  by_cases e : i = 0
  · subst e; exact f.1
  · have := f.2 i (by omega); omega
theorem fine_zero : Fine fun _ => 0 := ⟨Nat.zero_lt_succ _, fun _ _ => Nat.zero_lt_succ _⟩
theorem mul_fine {h r : Nat → Nat} (hd : ∀ t, prS h r 25 t < 1152921504606846976) : Fine (mulS h r) := by
  unfold mulS
  generalize prS h r 25 = d at hd ⊢
  have hc := cc_small (e := carS d) (carS_lt hd 0) (car_high d 1 (by decide)) (car_high d 2 (by decide)) (car_high d 3 (by decide)) (car_high d 4 (by decide))
  refine ⟨?_, fun i hi => car_high _ i hi⟩
  have : carS (carS d) 0 = (carS d 0 + 0) % 67108864 + 5 * cc (carS d) 5 := rfl
  rw [this]
  have := Nat.mod_lt (carS d 0 + 0) (show 67108864 > 0 by decide)
  omega
theorem cc5 (e : Nat → Nat) : cc e 1 = e 0 / 67108864 ∧ cc e 2 = (e 1 + cc e 1) / 67108864 ∧ cc e 3 = (e 2 + cc e 2) / 67108864 ∧ cc e 4 = (e 3 + cc e 3) / 67108864 ∧ cc e 5 = (e 4 + cc e 4) / 67108864 := ⟨rfl, rfl, rfl, rfl, rfl⟩
theorem car_fine {h : Nat → Nat} (f : Fine h) (i : Nat) : carS h i < 67108864 := by
  by_cases e : i = 0
  · subst e
    have e0 : carS h 0 = h 0 % 67108864 + 5 * cc h 5 := rfl
    obtain ⟨c1, c2, c3, c4, c5⟩ := cc5 h
    have h0 := f.1
    have h1 := f.2 1 (by decide)
    have h2 := f.2 2 (by decide)
    have h3 := f.2 3 (by decide)
    have h4 := f.2 4 (by decide)
    rw [e0]
    generalize cc h 1 = k1 at *
    generalize cc h 2 = k2 at *
    generalize cc h 3 = k3 at *
    generalize cc h 4 = k4 at *
    generalize cc h 5 = k5 at *
    omega
  · exact car_high h i (by omega)
theorem end_lt {h : Nat → Nat} (f : Fine h) (i : Nat) (hi : i < 5) : endL h i < 67108864 := by
  have h2 := car_fine (h := carS h) ⟨Nat.lt_trans (car_fine f 0) (by decide), fun i _ => car_fine f i⟩
  unfold endL least
  split
  · exact mid_lt _ i hi
  · exact h2 i
/-- What the document's own end writes. -/
theorem fin_tag {h : Nat → Nat} (f : Fine h) (s : ByteArray) : finS (endL h) s = tagS (val h % p130) (leB (byt s) 16) := by
  rw [finS_val (end_lt f 0 (by decide)) (end_lt f 1 (by decide)) (end_lt f 2 (by decide)) (end_lt f 3 (by decide)) (end_lt f 4 (by decide)), val_end fun i => Nat.lt_trans (f.all i) (by decide)]
theorem val_plus (h l : Nat → Nat) : val (fun i => h i + l i) = val h + val l := by unfold val; simp only []; omega
/-- A round of the document's own answer. -/
theorem round_val {h : Nat → Nat} {r A : Nat} (hA : val h % p130 = A) (x : Nat) (hx : x < 1361129467683753853853498429727072845824) (hr : r < 1361129467683753853853498429727072845824) :
    val (mulS (fun i => h i + lmb x i) (lmb r)) % p130 = (A + x) * r % p130 := by
  rw [val_mul, val_plus, val_lmb x hx, val_lmb r hr, ← hA, Nat.mul_mod, Nat.mul_mod (val h % p130 + x), Nat.mod_add_mod]
end Go.Proofs.Pol
