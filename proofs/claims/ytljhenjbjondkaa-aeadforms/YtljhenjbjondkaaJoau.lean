/-
  Four bytes as one word, and AES's steps on such words, of no program.
-/
import Derived.Test.YtljhenjbjondkaaJoak
import Derived.Handy
namespace Go.Proofs.Ae
open Go.RowKit
open Go.Proofs.Aes
/-- Four bytes as a word, the first one the highest. -/
def pk (a b c d : Nat) : Nat := a * 16777216 + b * 65536 + c * 256 + d
theorem pk_lt {a b c d : Nat} (ha : a < 256) (hb : b < 256) (hc : c < 256) (hd : d < 256) : pk a b c d < 4294967296 := by unfold pk; omega
theorem xor8 (a b x y : Nat) (hb : b < 256) (hy : y < 256) : (a * 256 + b) ^^^ (x * 256 + y) = (a ^^^ x) * 256 + (b ^^^ y) := by
  have h1 := Nat.xor_div_two_pow (a := a * 256 + b) (b := x * 256 + y) (n := 8)
  have h2 := Nat.xor_mod_two_pow (a := a * 256 + b) (b := x * 256 + y) (n := 8)
  rw [show (2 : Nat) ^ 8 = 256 from rfl] at h1 h2
  rw [show (a * 256 + b) / 256 = a by omega, show (x * 256 + y) / 256 = x by omega] at h1
  rw [show (a * 256 + b) % 256 = b by omega, show (x * 256 + y) % 256 = y by omega] at h2
  omega
theorem and8 (a b x y : Nat) (hb : b < 256) (hy : y < 256) : (a * 256 + b) &&& (x * 256 + y) = (a &&& x) * 256 + (b &&& y) := by
  have h1 := Nat.and_div_two_pow (a := a * 256 + b) (b := x * 256 + y) (n := 8)
  have h2 := Nat.and_mod_two_pow (a := a * 256 + b) (b := x * 256 + y) (n := 8)
  rw [show (2 : Nat) ^ 8 = 256 from rfl] at h1 h2
  rw [show (a * 256 + b) / 256 = a by omega, show (x * 256 + y) / 256 = x by omega] at h1
  rw [show (a * 256 + b) % 256 = b by omega, show (x * 256 + y) % 256 = y by omega] at h2
  omega
theorem pk_nest (a b c d : Nat) : pk a b c d = ((a * 256 + b) * 256 + c) * 256 + d := by unfold pk; omega
theorem pk_xor (a b c d a' b' c' d' : Nat) (hb : b < 256) (hc : c < 256) (hd : d < 256) (hb' : b' < 256) (hc' : c' < 256) (hd' : d' < 256) :
    pk a b c d ^^^ pk a' b' c' d' = pk (a ^^^ a') (b ^^^ b') (c ^^^ c') (d ^^^ d') := by
  rw [pk_nest, pk_nest, pk_nest, xor8 _ _ _ _ hd hd', xor8 _ _ _ _ hc hc', xor8 _ _ _ _ hb hb']
theorem pk_and (a b c d a' b' c' d' : Nat) (hb : b < 256) (hc : c < 256) (hd : d < 256) (hb' : b' < 256) (hc' : c' < 256) (hd' : d' < 256) :
    pk a b c d &&& pk a' b' c' d' = pk (a &&& a') (b &&& b') (c &&& c') (d &&& d') := by
  rw [pk_nest, pk_nest, pk_nest, and8 _ _ _ _ hd hd', and8 _ _ _ _ hc hc', and8 _ _ _ _ hb hb']
theorem and127 (a : Nat) : a &&& 127 = a % 128 := Nat.and_two_pow_sub_one_eq_mod a 7
theorem and1 (a : Nat) : a &&& 1 = a % 2 := Nat.and_two_pow_sub_one_eq_mod a 1
theorem dbl_parts (a : Nat) (h : a < 256) : (a % 128 * 2) ^^^ (a / 128 * 27) = dbl a := by
  unfold dbl
  split
  · rw [show a / 128 * 27 = 27 by omega, show a % 128 * 2 = a * 2 % 256 by omega]
  · rw [show a / 128 * 27 = 0 by omega, show a % 128 * 2 = a * 2 by omega, Nat.xor_zero]
theorem pk_dbl (a b c d : Nat) (ha : a < 256) (hb : b < 256) (hc : c < 256) (hd : d < 256) :
    ((pk a b c d &&& 2139062143) * 2 % 4294967296) ^^^ ((pk a b c d / 128 &&& 16843009) * 27 % 4294967296) = pk (dbl a) (dbl b) (dbl c) (dbl d) := by
  have e1 : pk a b c d / 128 = pk (a / 128) (a % 128 * 2 + b / 128) (b % 128 * 2 + c / 128) (c % 128 * 2 + d / 128) := by unfold pk; omega
  rw [e1, show 2139062143 = pk 127 127 127 127 from rfl, show 16843009 = pk 1 1 1 1 from rfl]
  rw [pk_and a b c d 127 127 127 127 hb hc hd (by decide) (by decide) (by decide)]
  rw [pk_and (a / 128) _ _ _ 1 1 1 1 (by omega) (by omega) (by omega) (by decide) (by decide) (by decide)]
  rw [and127, and127, and127, and127, and1, and1, and1, and1]
  rw [show a / 128 % 2 = a / 128 by omega, show (a % 128 * 2 + b / 128) % 2 = b / 128 by omega, show (b % 128 * 2 + c / 128) % 2 = c / 128 by omega, show (c % 128 * 2 + d / 128) % 2 = d / 128 by omega]
  rw [show pk (a % 128) (b % 128) (c % 128) (d % 128) * 2 % 4294967296 = pk (a % 128 * 2) (b % 128 * 2) (c % 128 * 2) (d % 128 * 2) by unfold pk; omega]
  rw [show pk (a / 128) (b / 128) (c / 128) (d / 128) * 27 % 4294967296 = pk (a / 128 * 27) (b / 128 * 27) (c / 128 * 27) (d / 128 * 27) by unfold pk; omega]
  rw [pk_xor _ _ _ _ _ _ _ _ (by omega) (by omega) (by omega) (by omega) (by omega) (by omega), dbl_parts a ha, dbl_parts b hb, dbl_parts c hc, dbl_parts d hd]
theorem pk_rot8 (a b c d : Nat) (_ha : a < 256) (hb : b < 256) (hc : c < 256) (hd : d < 256) : (pk a b c d * 256 % 4294967296) ||| (pk a b c d / 16777216) = pk b c d a := by
  rw [show pk a b c d * 256 % 4294967296 = pk b c d 0 by unfold pk; omega, show pk a b c d / 16777216 = a by unfold pk; omega, nat_join 8 _ _ (by unfold pk; omega) (by omega)]
  unfold pk; omega
theorem pk_rot16 (a b c d : Nat) (_ha : a < 256) (hb : b < 256) (hc : c < 256) (hd : d < 256) : (pk a b c d * 65536 % 4294967296) ||| (pk a b c d / 65536) = pk c d a b := by
  rw [show pk a b c d * 65536 % 4294967296 = pk c d 0 0 by unfold pk; omega, show pk a b c d / 65536 = a * 256 + b by unfold pk; omega, nat_join 16 _ _ (by unfold pk; omega) (by omega)]
  unfold pk; omega
theorem pk_rot24 (a b c d : Nat) (_ha : a < 256) (hb : b < 256) (hc : c < 256) (hd : d < 256) : (pk a b c d * 16777216 % 4294967296) ||| (pk a b c d / 256) = pk d a b c := by
  rw [show pk a b c d * 16777216 % 4294967296 = pk d 0 0 0 by unfold pk; omega, show pk a b c d / 256 = a * 65536 + b * 256 + c by unfold pk; omega, nat_join 24 _ _ (by unfold pk; omega) (by omega)]
  unfold pk; omega
/-- A word out of four bytes, as the program joins them. -/
theorem join_bits (a b c d : Nat) (ha : a < 256) (hb : b < 256) (hc : c < 256) (hd : d < 256) :
    bits .or .u32 (bits .or .u32 (bits .or .u32 ((a : Int) * 16777216) ((b : Int) * 65536)) ((c : Int) * 256)) (d : Int) = ((pk a b c d : Nat) : Int) := by
  rw [show (a : Int) * 16777216 = ((a * 16777216 : Nat) : Int) by omega, show (b : Int) * 65536 = ((b * 65536 : Nat) : Int) by omega, show (c : Int) * 256 = ((c * 256 : Nat) : Int) by omega]
  rw [u32_or_nat _ _ (by omega) (by omega), nat_join 24 (a * 16777216) (b * 65536) (by omega) (by omega)]
  rw [u32_or_nat _ _ (by omega) (by omega), nat_join 16 _ (c * 256) (by omega) (by omega)]
  rw [u32_or_nat _ _ (by omega) (by omega), nat_join 8 _ d (by omega) (by omega)]
  rfl
/-- Word i of a row of bytes. -/
def wd (f : Nat → Nat) (i : Nat) : Nat := pk (f (4 * i)) (f (4 * i + 1)) (f (4 * i + 2)) (f (4 * i + 3))
theorem wd_lt {f : Nat → Nat} (h : ∀ t, f t < 256) (i : Nat) : wd f i < 4294967296 := pk_lt (h _) (h _) (h _) (h _)
theorem wd_congr {f g : Nat → Nat} (i : Nat) (h : ∀ t, 4 * i ≤ t → t < 4 * i + 4 → f t = g t) : wd f i = wd g i := by
  unfold wd; rw [h _ (by omega) (by omega), h _ (by omega) (by omega), h _ (by omega) (by omega), h _ (by omega) (by omega)]
theorem wd_add {wk y : Nat → Nat} (hw : ∀ t, wk t < 256) (hy : ∀ t, y t < 256) (r c : Nat) : wd y c ^^^ wd wk (4 * r + c) = wd (addS wk r y) c := by
  unfold wd addS
  rw [pk_xor _ _ _ _ _ _ _ _ (hy _) (hy _) (hy _) (hw _) (hw _) (hw _)]
  rw [show 4 * (4 * r + c) = 16 * r + 4 * c by omega, Nat.add_assoc (16 * r), Nat.add_assoc (16 * r), Nat.add_assoc (16 * r)]
/-- The substitutes of one byte of each of four words. -/
def colN (w x y z : Nat) : Nat := pk (bx (w / 16777216 % 256)) (bx (x / 65536 % 256)) (bx (y / 256 % 256)) (bx (z % 256))
theorem colN_lt (w x y z : Nat) : colN w x y z < 4294967296 := pk_lt (bx_lt _ (Nat.mod_lt _ (by decide))) (bx_lt _ (Nat.mod_lt _ (by decide))) (bx_lt _ (Nat.mod_lt _ (by decide))) (bx_lt _ (Nat.mod_lt _ (by decide)))
theorem colN_pk (a b c d e f g h i j k l m n o p : Nat) (ha : a < 256) (hb : b < 256) (hc : c < 256) (hd : d < 256) (_he : e < 256) (hf : f < 256) (hg : g < 256) (hh : h < 256) (_hi : i < 256) (_hj : j < 256) (hk : k < 256) (hl : l < 256) (_hm : m < 256) (_hn : n < 256) (_ho : o < 256) (hp : p < 256) :
    colN (pk a b c d) (pk e f g h) (pk i j k l) (pk m n o p) = pk (bx a) (bx f) (bx k) (bx p) := by
  unfold colN
  rw [show pk a b c d / 16777216 % 256 = a by unfold pk; omega, show pk e f g h / 65536 % 256 = f by unfold pk; omega, show pk i j k l / 256 % 256 = k by unfold pk; omega, show pk m n o p % 256 = p by unfold pk; omega]
theorem wd_sub {x : Nat → Nat} (hx : ∀ t, x t < 256) (c c1 c2 c3 : Nat) (hc : c < 4) (h1 : c1 = (c + 1) % 4) (h2 : c2 = (c + 2) % 4) (h3 : c3 = (c + 3) % 4) : colN (wd x c) (wd x c1) (wd x c2) (wd x c3) = wd (subS x) c := by
  unfold wd subS
  rw [colN_pk _ _ _ _ _ _ _ _ _ _ _ _ _ _ _ _ (hx _) (hx _) (hx _) (hx _) (hx _) (hx _) (hx _) (hx _) (hx _) (hx _) (hx _) (hx _) (hx _) (hx _) (hx _) (hx _)]
  rw [show (4 * c + 4 * (4 * c % 4)) % 16 = 4 * c by omega, show (4 * c + 1 + 4 * ((4 * c + 1) % 4)) % 16 = 4 * c1 + 1 by omega, show (4 * c + 2 + 4 * ((4 * c + 2) % 4)) % 16 = 4 * c2 + 2 by omega, show (4 * c + 3 + 4 * ((4 * c + 3) % 4)) % 16 = 4 * c3 + 3 by omega]
/-- One column mixed. -/
def mixN (w : Nat) : Nat :=
  let n := (w * 256 % 4294967296) ||| (w / 16777216)
  let x := w ^^^ n
  ((((x &&& 2139062143) * 2 % 4294967296) ^^^ ((x / 128 &&& 16843009) * 27 % 4294967296)) ^^^ n ^^^ ((w * 65536 % 4294967296) ||| (w / 65536))) ^^^ ((w * 16777216 % 4294967296) ||| (w / 256))
theorem mix_one (a b c d e : Nat) : e ^^^ b ^^^ c ^^^ d = a ^^^ (a ^^^ b ^^^ c ^^^ d) ^^^ e := by
  rw [show a ^^^ (a ^^^ b ^^^ c ^^^ d) = b ^^^ c ^^^ d by rw [Nat.xor_assoc a b, Nat.xor_assoc a, ← Nat.xor_assoc a a, Nat.xor_self, Nat.zero_xor], Nat.xor_comm _ e]
  simp only [Nat.xor_assoc]
theorem mixN_pk (a b c d : Nat) (ha : a < 256) (hb : b < 256) (hc : c < 256) (hd : d < 256) :
    mixN (pk a b c d) = pk (a ^^^ (a ^^^ b ^^^ c ^^^ d) ^^^ dbl (a ^^^ b)) (b ^^^ (a ^^^ b ^^^ c ^^^ d) ^^^ dbl (b ^^^ c)) (c ^^^ (a ^^^ b ^^^ c ^^^ d) ^^^ dbl (c ^^^ d)) (d ^^^ (a ^^^ b ^^^ c ^^^ d) ^^^ dbl (d ^^^ a)) := by
  unfold mixN
  rw [pk_rot8 a b c d ha hb hc hd, pk_rot16 a b c d ha hb hc hd, pk_rot24 a b c d ha hb hc hd]
  simp only []
  rw [pk_xor a b c d b c d a hb hc hd hc hd ha]
  have xab := xor8_lt ha hb
  have xbc := xor8_lt hb hc
  have xcd := xor8_lt hc hd
  have xda := xor8_lt hd ha
  rw [pk_dbl _ _ _ _ xab xbc xcd xda]
  have d1 := dbl_lt _ xbc
  have d2 := dbl_lt _ xcd
  have d3 := dbl_lt _ xda
  rw [pk_xor _ _ _ _ _ _ _ _ d1 d2 d3 hc hd ha, pk_xor _ _ _ _ _ _ _ _ (xor8_lt d1 hc) (xor8_lt d2 hd) (xor8_lt d3 ha) hd ha hb, pk_xor _ _ _ _ _ _ _ _ (xor8_lt (xor8_lt d1 hc) hd) (xor8_lt (xor8_lt d2 hd) ha) (xor8_lt (xor8_lt d3 ha) hb) ha hb hc]
  have p2 : a ^^^ b ^^^ c ^^^ d = b ^^^ c ^^^ d ^^^ a := by rw [Nat.xor_assoc, Nat.xor_assoc, Nat.xor_comm, ← Nat.xor_assoc]
  have p3 : b ^^^ c ^^^ d ^^^ a = c ^^^ d ^^^ a ^^^ b := by rw [Nat.xor_assoc, Nat.xor_assoc, Nat.xor_comm, ← Nat.xor_assoc]
  have p4 : c ^^^ d ^^^ a ^^^ b = d ^^^ a ^^^ b ^^^ c := by rw [Nat.xor_assoc, Nat.xor_assoc, Nat.xor_comm, ← Nat.xor_assoc]
  rw [mix_one a b c d, mix_one b c d a, mix_one c d a b, mix_one d a b c, ← p4, ← p3, ← p2]
theorem wd_mix {y : Nat → Nat} (hy : ∀ t, y t < 256) (c : Nat) : mixN (wd y c) = wd (mixS y) c := by
  unfold wd mixS allC
  rw [mixN_pk _ _ _ _ (hy _) (hy _) (hy _) (hy _)]
  rw [show 4 * (4 * c / 4) = 4 * c by omega, show 4 * ((4 * c + 1) / 4) = 4 * c by omega, show 4 * ((4 * c + 2) / 4) = 4 * c by omega, show 4 * ((4 * c + 3) / 4) = 4 * c by omega]
  rw [show 4 * c + (4 * c % 4 + 1) % 4 = 4 * c + 1 by omega, show 4 * c + ((4 * c + 1) % 4 + 1) % 4 = 4 * c + 2 by omega, show 4 * c + ((4 * c + 2) % 4 + 1) % 4 = 4 * c + 3 by omega, show 4 * c + ((4 * c + 3) % 4 + 1) % 4 = 4 * c by omega]
/-- One word of the schedule. -/
theorem wd_rot {f : Nat → Nat} (hf : ∀ t, f t < 256) (i : Nat) : (wd f i * 256 % 4294967296) ||| (wd f i / 16777216) = pk (f (4 * i + 1)) (f (4 * i + 2)) (f (4 * i + 3)) (f (4 * i)) := pk_rot8 _ _ _ _ (hf _) (hf _) (hf _) (hf _)
theorem colN_self (a b c d : Nat) (ha : a < 256) (hb : b < 256) (hc : c < 256) (hd : d < 256) : colN (pk a b c d) (pk a b c d) (pk a b c d) (pk a b c d) = pk (bx a) (bx b) (bx c) (bx d) :=
  colN_pk _ _ _ _ _ _ _ _ _ _ _ _ _ _ _ _ ha hb hc hd ha hb hc hd ha hb hc hd ha hb hc hd
/-- The round's number as a word's first byte. -/
def rcW (q : Nat) : Nat := pk (rc q) 0 0 0
theorem rcW_lt (q : Nat) : rcW q < 4294967296 := pk_lt (rc_lt q) (by decide) (by decide) (by decide)
theorem rcW_succ (q : Nat) : ((rcW q &&& 2139062143) * 2 % 4294967296) ^^^ ((rcW q / 128 &&& 16843009) * 27 % 4294967296) = rcW (q + 1) := by
  unfold rcW; rw [pk_dbl _ _ _ _ (rc_lt q) (by decide) (by decide) (by decide)]; rfl
/-- The word ahead of the sum, as words tell it. -/
def tmpN (k i : Nat) (x : Nat) : Nat :=
  let y := (x * 256 % 4294967296) ||| (x / 16777216)
  if i % k = 0 then colN y y y y ^^^ rcW ((i + k - 1) / k - 1) else if 6 < k ∧ i % k = 4 then colN x x x x else x
theorem tmpN_wd {f : Nat → Nat} (hf : ∀ t, f t < 256) (k i : Nat) : tmpN k i (wd f (i - 1)) = pk (tmpW k i f 0) (tmpW k i f 1) (tmpW k i f 2) (tmpW k i f 3) := by
  unfold tmpN tmpW
  rw [wd_rot hf]
  simp only []
  split
  · rw [colN_self _ _ _ _ (hf _) (hf _) (hf _) (hf _)]
    unfold rcW
    rw [pk_xor _ _ _ _ _ _ _ _ (bx_lt _ (hf _)) (bx_lt _ (hf _)) (bx_lt _ (hf _)) (by decide) (by decide) (by decide)]
    simp
  · split
    · unfold wd; rw [colN_self _ _ _ _ (hf _) (hf _) (hf _) (hf _)]; rfl
    · rfl
theorem wd_step (k m : Nat) (key : ByteArray) : wd (exS k key m) m ^^^ tmpN k (k + m) (wd (exS k key m) (k + m - 1)) = wd (exS k key (m + 1)) (k + m) := by
  have hf := exS_lt k key m
  rw [tmpN_wd hf k (k + m)]
  have e : ∀ j, j < 4 → exS k key (m + 1) (4 * (k + m) + j) = tmpW k (k + m) (exS k key m) j ^^^ exS k key m (4 * m + j) := fun j hj => by
    show (if (4 * (k + m) + j) / 4 = k + m then stepW k (k + m) (exS k key m) ((4 * (k + m) + j) % 4) else _) = _
    rw [if_pos (by omega), show (4 * (k + m) + j) % 4 = j by omega]
    unfold stepW
    rw [show k + m - k = m by omega]
  conv => rhs; unfold wd
  rw [show 4 * (k + m) = 4 * (k + m) + 0 from rfl, e 0 (by decide), show 4 * (k + m) + 0 + 1 = 4 * (k + m) + 1 from rfl, e 1 (by decide), show 4 * (k + m) + 0 + 2 = 4 * (k + m) + 2 from rfl, e 2 (by decide), show 4 * (k + m) + 0 + 3 = 4 * (k + m) + 3 from rfl, e 3 (by decide)]
  unfold wd
  rw [pk_xor _ _ _ _ _ _ _ _ (hf _) (hf _) (hf _) (tmpW_lt hf _) (tmpW_lt hf _) (tmpW_lt hf _)]
  rw [Nat.xor_comm (exS k key m (4 * m)), Nat.xor_comm (exS k key m (4 * m + 1)), Nat.xor_comm (exS k key m (4 * m + 2)), Nat.xor_comm (exS k key m (4 * m + 3))]
  rfl
theorem wd_keep (k m : Nat) (key : ByteArray) (i : Nat) (hi : i < k + m) : wd (exS k key (m + 1)) i = wd (exS k key m) i :=
  wd_congr i fun t h1 h2 => by
    show (if t / 4 = k + m then _ else exS k key m t) = _
    rw [if_neg (by omega)]
end Go.Proofs.Ae
