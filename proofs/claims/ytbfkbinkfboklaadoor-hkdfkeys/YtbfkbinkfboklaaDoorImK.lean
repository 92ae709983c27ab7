/-
  The developers' Hash: the last blocks of a text, as plain facts; the buffer's changes.
-/
import Derived.Test.YtbfkbinkfboklaaDoorImJ
namespace Go.Proofs.Im
open Go.RowKit Go.Proofs.Sha Go.Proofs.Be
theorem byt_zS (m i : Nat) : byt (zS m) i = 0 := by
  unfold byt zS strOfNums
  simp only [List.map_replicate, List.getD_eq_getElem?_getD, List.getElem?_replicate]
  split <;> rfl
theorem byt_beS (x i : Nat) (h : i < 8) : byt (beS x 8) i = beB x 8 i := by
  unfold byt
  rw [beS_list, beL_get x 8 i h]
  exact UInt8.toNat_ofNat_of_lt (beB_lt x 8 i)
/-- The bytes of a text's end: what is left, the 1, noughts, the length. -/
def tailF (R : Nat → Nat) (k T x : Nat) : Nat → Nat := fun i => if i < k then R i else if i = k then 128 else if i < T - 8 then 0 else beB x 8 (i - (T - 8))
theorem byt_tail (R : ByteArray) (z x T i : Nat) (hT : T = R.size + 1 + z + 8) (hi : i < T) : byt (R ++ (⟨#[128]⟩ ++ zS z ++ beS x 8)) i = tailF (byt R) R.size T x i := by
  rw [byt_app, byt_app, byt_app]
  have h1 : (⟨#[128]⟩ : ByteArray).size = 1 := rfl
  have h2 : (⟨#[128]⟩ ++ zS z : ByteArray).size = 1 + z := by rw [ByteArray.size_append, zS_size]; rfl
  unfold tailF
  rw [h1, h2]
  by_cases a : i < R.size
  · rw [if_pos a, if_pos a]
  · rw [if_neg a, if_neg a]
    by_cases b : i = R.size
    · subst b; rw [if_pos (by omega), if_pos (by omega), if_pos rfl, Nat.sub_self]; rfl
    · by_cases c : i < T - 8
      · rw [if_pos (by omega), if_neg (by omega), byt_zS, if_neg b, if_pos c]
      · rw [if_neg (by omega), if_neg b, if_neg c, byt_beS _ _ (by omega), show i - R.size - (1 + z) = i - (T - 8) by omega]
def tailK (wide : Bool) (s : ByteArray) : ByteArray := bif wide then Sha5.tailS s else Sha.tailS s
def fieldK (wide : Bool) : Nat := bif wide then 17 else 9
theorem tailK_byt (wide : Bool) (s : ByteArray) (i : Nat) (hi : i < (tailK wide s).size) : byt (tailK wide s) i = tailF (byt (restK wide s)) (s.size % sizeK wide) (tailK wide s).size (8 * s.size) i := by
  cases wide
  · have := byt_tail (Sha.rest s) ((64 - (s.size + 9) % 64) % 64 + 0) (8 * s.size) (Sha.tailS s).size i (by rw [Sha.tailS_size, Sha.rest_size]; omega) hi
    rw [Sha.rest_size] at this
    exact this
  · have := byt_tail (Sha5.rest s) ((128 - (s.size + 17) % 128) % 128 + 8) (8 * s.size) (Sha5.tailS s).size i (by rw [Sha5.tailS_size, Sha5.rest_size]; omega) hi
    rw [Sha5.rest_size] at this
    exact this
theorem tailK_one (wide : Bool) (s : ByteArray) (h : s.size % sizeK wide + fieldK wide ≤ sizeK wide) : (tailK wide s).size = sizeK wide := by
  cases wide
  · show (Sha.tailS s).size = 64
    exact Sha.tailS_one s (show s.size % 64 + 9 ≤ 64 from h)
  · show (Sha5.tailS s).size = 128
    exact Sha5.tailS_one s (show s.size % 128 + 17 ≤ 128 from h)
theorem tailK_two (wide : Bool) (s : ByteArray) (h : sizeK wide < s.size % sizeK wide + fieldK wide) : (tailK wide s).size = 2 * sizeK wide := by
  cases wide
  · show (Sha.tailS s).size = 2 * 64
    exact Sha.tailS_two s (show 64 < s.size % 64 + 9 from h)
  · show (Sha5.tailS s).size = 2 * 128
    exact Sha5.tailS_two s (show 128 < s.size % 128 + 17 from h)
/-- The state behind a text and its end. -/
def endK (wide : Bool) (s : ByteArray) : List Nat := stvK wide (stvK wide (ivK wide) s) (tailK wide s)
theorem endK_one (wide : Bool) (s : ByteArray) (h : s.size % sizeK wide + fieldK wide ≤ sizeK wide) : endK wide s = blkK wide (tailK wide s) (stvK wide (ivK wide) s) := stvK_block wide _ _ (tailK_one wide s h)
theorem endK_two (wide : Bool) (s : ByteArray) (h : sizeK wide < s.size % sizeK wide + fieldK wide) :
    endK wide s = blkK wide ((tailK wide s).extract (sizeK wide) (2 * sizeK wide)) (blkK wide ((tailK wide s).extract 0 (sizeK wide)) (stvK wide (ivK wide) s)) := by
  have hz := tailK_two wide s h
  have h1 : ((tailK wide s).extract 0 (sizeK wide)).size = sizeK wide := ext_take_size _ _ (by omega)
  have h2 : ((tailK wide s).extract (sizeK wide) (2 * sizeK wide)).size = sizeK wide := by rw [ByteArray.size_extract]; omega
  unfold endK
  have e := ext_split (tailK wide s) (sizeK wide) (by omega)
  rw [hz] at e
  conv => lhs; rw [← e]
  rw [stvK_on, stvK_block wide _ _ h1, restK_block wide _ h1, show (⟨#[]⟩ : ByteArray) = ByteArray.empty from rfl, ByteArray.empty_append, stvK_block wide _ _ h2]
theorem byt_ext (r : ByteArray) (a b i : Nat) (h : i < b - a) : byt (r.extract a b) i = byt r (a + i) := by
  unfold byt
  rw [show (r.extract a b).data.toList = (r.data.toList.drop a).take (b - a) by simp [List.extract_eq_take_drop], List.getD_eq_getElem?_getD, List.getElem?_take, if_pos h, List.getElem?_drop, ← List.getD_eq_getElem?_getD]
/-- The buffer's changes. -/
def oneB (buf : Nat → Nat) (k : Nat) : Nat → Nat := fun i => if i = k then 128 else buf i
def zeroB (buf : Nat → Nat) (a b : Nat) : Nat → Nat := fun i => if a ≤ i ∧ i < b then 0 else buf i
def lenB (buf : Nat → Nat) (size x : Nat) : Nat → Nat := fun i => if size - 8 ≤ i ∧ i < size then beB x 8 (i - (size - 8)) else buf i
theorem oneB_lt {buf : Nat → Nat} (h : ∀ i, buf i < 256) (k i : Nat) : oneB buf k i < 256 := by unfold oneB; split; decide; exact h i
theorem zeroB_lt {buf : Nat → Nat} (h : ∀ i, buf i < 256) (a b i : Nat) : zeroB buf a b i < 256 := by unfold zeroB; split; decide; exact h i
theorem lenB_lt {buf : Nat → Nat} (h : ∀ i, buf i < 256) (a b i : Nat) : lenB buf a b i < 256 := by unfold lenB; split; exact beB_lt _ _ _; exact h i
theorem hCell_buf {bits : Int} {st buf buf' : Nat → Nat} {len : Nat} (f : Nat → Value) (h : ∀ i, i < 128 → f (9 + i) = .int .u8 (buf' i : Nat)) (h2 : ∀ i, i < 9 ∨ 137 ≤ i → f i = hCell bits st buf len i) (i : Nat) : f i = hCell bits st buf' len i := by
  by_cases h9 : 9 ≤ i ∧ i < 137
  · have := h (i - 9) (by omega)
    rw [show 9 + (i - 9) = i by omega] at this
    rw [this]
    unfold hCell
    rw [if_neg (by omega), if_neg (by omega), if_pos (by omega)]
  · rw [h2 i (by omega)]
    unfold hCell
    by_cases h0 : i = 0
    · rw [if_pos h0, if_pos h0]
    · by_cases h9' : i < 9
      · rw [if_neg h0, if_neg h0, if_pos h9', if_pos h9']
      · rw [if_neg h0, if_neg h0, if_neg h9', if_neg h9', if_neg (by omega), if_neg (by omega)]
theorem hCell_in {bits : Int} {st buf : Nat → Nat} {len : Nat} (i : Nat) (hi : i < 128) : hCell bits st buf len (9 + i) = .int .u8 (buf i : Nat) := by
  unfold hCell
  rw [if_neg (by omega), if_neg (by omega), if_pos (by omega), show 9 + i - 9 = i by omega]
theorem IsH.one {w : World} {g : Nat} {bits : Int} {st buf : Nat → Nat} {len : Nat} (h : IsH w g bits st buf len) (k : Nat) (hk : k < 128) : IsH (w.setCell ⟨g, 9 + k, none⟩ (.int .u8 128)) g bits st (oneB buf k) len := by
  refine World.rowIs.congr (World.rowIs.set h (9 + k) _) fun i _ => hCell_buf (fun j => if j = 9 + k then .int .u8 128 else hCell bits st buf len j) (fun i hi => ?_) (fun i hi => by show (if _ then _ else _) = _; rw [if_neg (by omega)]) i
  show (if _ then _ else _) = _
  unfold oneB
  by_cases e : i = k
  · rw [if_pos (by omega), if_pos e]; rfl
  · rw [if_neg (by omega), if_neg e, hCell_in i hi]
theorem IsH.zero {w : World} {g : Nat} {bits : Int} {st buf : Nat → Nat} {len : Nat} (h : IsH w g bits st buf len) (a n : Nat) (hn : a + n ≤ 128) : IsH (w.setCells g (9 + a) (List.replicate n (.int .u8 0))) g bits st (zeroB buf a (a + n)) len := by
  refine World.rowIs.congr (rowIs_setCells _ (9 + a) w _ h) fun i _ => hCell_buf (fun j => if 9 + a ≤ j ∧ j < 9 + a + (List.replicate n (Value.int .u8 0)).length then (List.replicate n (Value.int .u8 0)).getD (j - (9 + a)) (.int .u8 0) else hCell bits st buf len j) (fun i hi => ?_) (fun i hi => by show (if _ then _ else _) = _; rw [List.length_replicate, if_neg (by omega)]) i
  show (if _ then _ else _) = _
  unfold zeroB
  rw [List.length_replicate]
  by_cases e : a ≤ i ∧ i < a + n
  · rw [if_pos (by omega), if_pos e, List.getD_eq_getElem?_getD, List.getElem?_replicate]
    split <;> rfl
  · rw [if_neg (by omega), if_neg e, hCell_in i hi]
theorem IsH.putLen {w : World} {g : Nat} {bits : Int} {st buf : Nat → Nat} {len : Nat} (size x : Nat) (h8 : 8 ≤ size) (hz : size ≤ 128) (h : w.rowIs g 73 138 (laidB (hCell bits st buf len) (9 + (size - 8)) 8 x 8)) : IsH w g bits st (lenB buf size x) len := by
  refine World.rowIs.congr h fun i _ => hCell_buf _ (fun i hi => ?_) (fun i hi => by unfold laidB; rw [if_neg (by omega)]) i
  unfold laidB lenB
  by_cases e : size - 8 ≤ i ∧ i < size
  · rw [if_pos (by omega), if_pos e, show 9 + i - (9 + (size - 8)) = i - (size - 8) by omega]
  · rw [if_neg (by omega), if_neg e, hCell_in i hi]
/-- One block: the buffer is the text's end. -/
theorem end_one {wide : Bool} {s : ByteArray} {st buf : Nat → Nat} (H : Holds wide s st buf) (h : s.size % sizeK wide + fieldK wide ≤ sizeK wide) (i : Nat) (hi : i < sizeK wide) :
    lenB (zeroB (oneB buf (s.size % sizeK wide)) (s.size % sizeK wide + 1) (sizeK wide)) (sizeK wide) (8 * s.size) i = byt (tailK wide s) i := by
  have hz := tailK_one wide s h
  have hf : 9 ≤ fieldK wide := by cases wide <;> decide
  rw [tailK_byt wide s i (by omega), hz]
  unfold tailF lenB zeroB oneB
  by_cases a : i < s.size % sizeK wide
  · rw [if_pos a, if_neg (by omega), if_neg (by omega), if_neg (by omega), H.2.2.2 i a]
  · rw [if_neg a]
    by_cases b : i = s.size % sizeK wide
    · rw [if_pos b, if_neg (by omega), if_neg (by omega), if_pos b]
    · rw [if_neg b, if_neg b]
      by_cases c : i < sizeK wide - 8
      · rw [if_pos c, if_neg (by omega), if_pos (by omega)]
      · rw [if_neg c, if_pos (by omega)]
/-- Two blocks: the buffer is the first. -/
theorem end_two1 {wide : Bool} {s : ByteArray} {st buf : Nat → Nat} (H : Holds wide s st buf) (h : sizeK wide < s.size % sizeK wide + fieldK wide) (i : Nat) (hi : i < sizeK wide) :
    zeroB (oneB buf (s.size % sizeK wide)) (s.size % sizeK wide + 1) (sizeK wide) i = byt ((tailK wide s).extract 0 (sizeK wide)) i := by
  have hz := tailK_two wide s h
  have hp : 8 ≤ sizeK wide := by cases wide <;> decide
  rw [byt_take _ _ _ hi, tailK_byt wide s i (by omega), hz]
  unfold tailF zeroB oneB
  by_cases a : i < s.size % sizeK wide
  · rw [if_pos a, if_neg (by omega), if_neg (by omega), H.2.2.2 i a]
  · rw [if_neg a]
    by_cases b : i = s.size % sizeK wide
    · rw [if_pos b, if_neg (by omega), if_pos b]
    · rw [if_neg b, if_neg b, if_pos (by omega), if_pos (by omega)]
/-- .. and the second. -/
theorem end_two2 {wide : Bool} {s : ByteArray} {buf : Nat → Nat} (h : sizeK wide < s.size % sizeK wide + fieldK wide) (i : Nat) (hi : i < sizeK wide) :
    lenB (zeroB buf 0 (0 + sizeK wide)) (sizeK wide) (8 * s.size) i = byt ((tailK wide s).extract (sizeK wide) (2 * sizeK wide)) i := by
  have hz := tailK_two wide s h
  have hp : 8 ≤ sizeK wide := by cases wide <;> decide
  have hm : s.size % sizeK wide < sizeK wide := Nat.mod_lt _ (sizeK_pos wide)
  rw [byt_ext _ _ _ _ (by omega), tailK_byt wide s _ (by omega), hz]
  unfold tailF lenB zeroB
  rw [if_neg (by omega : ¬ sizeK wide + i < s.size % sizeK wide), if_neg (by omega : ¬ sizeK wide + i = s.size % sizeK wide)]
  by_cases c : i < sizeK wide - 8
  · rw [if_pos (by omega : sizeK wide + i < 2 * sizeK wide - 8), if_neg (by omega), if_pos (by omega)]
  · rw [if_neg (by omega : ¬ sizeK wide + i < 2 * sizeK wide - 8), if_pos (by omega), show sizeK wide + i - (2 * sizeK wide - 8) = i - (sizeK wide - 8) by omega]
end Go.Proofs.Im
