/-
  The developers' Hash: both kinds in one; what it holds when a text was written to it.
-/
import Derived.Test.YtbfkbinkfboklaaDoorImH
import Derived.Test.YtbfkbinkfboklaaDoorShaS
namespace Go.Proofs.Im
open Go.RowKit Go.Proofs.Sha
def bitsK (wide : Bool) : Int := bif wide then 384 else 256
def sizeK (wide : Bool) : Nat := bif wide then 128 else 64
def limK (wide : Bool) : Nat := bif wide then 18446744073709551616 else 4294967296
def blkK (wide : Bool) (s : ByteArray) (v : List Nat) : List Nat := bif wide then Sha5.blk s v else Sha.blk s v
def stvK (wide : Bool) (v : List Nat) (s : ByteArray) : List Nat := bif wide then Sha5.stv v s else Sha.stv v s
def restK (wide : Bool) (s : ByteArray) : ByteArray := bif wide then Sha5.rest s else Sha.rest s
def ivK (wide : Bool) : List Nat := bif wide then Sha5.iv384 else Sha.iv256
theorem kindK (wide : Bool) : Kind (bitsK wide) (sizeK wide) := by cases wide <;> simp [Kind, bitsK, sizeK]
theorem sizeK_pos (wide : Bool) : 0 < sizeK wide := by cases wide <;> decide
theorem sizeK_le (wide : Bool) : sizeK wide ≤ 128 := by cases wide <;> decide
theorem limK_le (wide : Bool) : limK wide ≤ 18446744073709551616 := by cases wide <;> decide
theorem restK_size (wide : Bool) (s : ByteArray) : (restK wide s).size = s.size % sizeK wide := by
  cases wide
  · exact Sha.rest_size s
  · exact Sha5.rest_size s
theorem stvK_on (wide : Bool) (v : List Nat) (s t : ByteArray) : stvK wide v (s ++ t) = stvK wide (stvK wide v s) (restK wide s ++ t) := by
  cases wide
  · exact Sha.stv_on v s t
  · exact Sha5.stv_on v s t
theorem restK_on (wide : Bool) (s t : ByteArray) : restK wide (s ++ t) = restK wide (restK wide s ++ t) := by
  cases wide
  · exact Sha.rest_on s t
  · exact Sha5.rest_on s t
theorem stvK_small (wide : Bool) (v : List Nat) (s : ByteArray) (h : s.size < sizeK wide) : stvK wide v s = v := by
  cases wide
  · exact Sha.stv_small v s h
  · exact Sha5.stv_small v s h
theorem restK_small (wide : Bool) (s : ByteArray) (h : s.size < sizeK wide) : restK wide s = s := by
  cases wide
  · exact Sha.rest_small s h
  · exact Sha5.rest_small s h
theorem stvK_block (wide : Bool) (v : List Nat) (s : ByteArray) (h : s.size = sizeK wide) : stvK wide v s = blkK wide s v := by
  cases wide
  · exact Sha.stv_block v s h
  · exact Sha5.stv_block v s h
theorem restK_block (wide : Bool) (s : ByteArray) (h : s.size = sizeK wide) : restK wide s = ⟨#[]⟩ := by
  cases wide
  · exact Sha.rest_block s h
  · exact Sha5.rest_block s h
theorem byt_app (a b : ByteArray) (i : Nat) : byt (a ++ b) i = if i < a.size then byt a i else byt b (i - a.size) := by
  unfold byt
  rw [show (a ++ b).data.toList = a.data.toList ++ b.data.toList by simp, List.getD_eq_getElem?_getD]
  have hl : a.data.toList.length = a.size := by simp
  by_cases h : i < a.size
  · rw [if_pos h, List.getElem?_append_left (by omega), ← List.getD_eq_getElem?_getD]
  · rw [if_neg h, List.getElem?_append_right (by omega), hl, ← List.getD_eq_getElem?_getD]
theorem byt_take (r : ByteArray) (n i : Nat) (h : i < n) : byt (r.extract 0 n) i = byt r i := by
  unfold byt
  rw [show (r.extract 0 n).data.toList = r.data.toList.take n by simp, List.getD_eq_getElem?_getD, List.getElem?_take, if_pos h, ← List.getD_eq_getElem?_getD]
set_option maxHeartbeats 400000 in
theorem hmixK (wide : Bool) (s : ByteArray) (g : Nat) (st buf : Nat → Nat) (len : Nat) (w : World) (h : IsH w g (bitsK wide) st buf len) (hT : Tab w) (hb : ∀ i, buf i < 256) (hs : ∀ i, i < sizeK wide → buf i = byt s i) (hl : ∀ i, i < 8 → st i < limK wide) :
    Calls Tryd.prog 52 #[.pointer (some ⟨g, 0, none⟩)] w fun e w' => e = .returned (.tuple #[]) ∧ But g w w' ∧ ∃ st', IsH w' g (bitsK wide) st' buf len ∧ stL st' = blkK wide s (stL st) ∧ ∀ i, i < 8 → st' i < limK wide := by
  cases wide
  · exact hmix_256 s g st buf len w h hT hb hs hl
  · exact hmix_384 s g st buf len w h hT hb hs hl
/-- The Hash at block g holds st, buf, as one to which s was written. -/
def Holds (wide : Bool) (s : ByteArray) (st buf : Nat → Nat) : Prop :=
  stL st = stvK wide (ivK wide) s ∧ (∀ i, i < 8 → st i < limK wide) ∧ (∀ i, buf i < 256) ∧ ∀ i, i < s.size % sizeK wide → buf i = byt (restK wide s) i
def Wrote (w : World) (g : Nat) (wide : Bool) (s : ByteArray) : Prop := ∃ st buf, IsH w g (bitsK wide) st buf s.size ∧ Holds wide s st buf
theorem Wrote.drewN {w : World} {g : Nat} {wide : Bool} {s : ByteArray} (h : Wrote w g wide s) (q : Nat) : Wrote (w.drewN q) g wide s := by
  obtain ⟨st, buf, h1, h2⟩ := h; exact ⟨st, buf, h1.drewN q, h2⟩
theorem Wrote.but {w u : World} {g b : Nat} {wide : Bool} {s : ByteArray} (h : Wrote w g wide s) (hb : But b w u) (hn : g ≠ b) : Wrote u g wide s := by
  obtain ⟨st, buf, h1, h2⟩ := h; exact ⟨st, buf, hb.row h1 hn, h2⟩
theorem Wrote.below {w u : World} {g B : Nat} {wide : Bool} {s : ByteArray} (h : Wrote w g wide s) (hb : Below B w u) (hn : g < B) : Wrote u g wide s := by
  obtain ⟨st, buf, h1, h2⟩ := h; exact ⟨st, buf, h1.below hb hn, h2⟩
theorem Wrote.lt {w : World} {g : Nat} {wide : Bool} {s : ByteArray} (h : Wrote w g wide s) : g < w.heap.size := by
  obtain ⟨st, buf, h1, h2⟩ := h; exact h1.lt
theorem Tab.but {w u : World} {g : Nat} (h : Tab w) (hb : But g w u) (hg : 0 < g) : Tab u := h.below (hb.below (Below.refl (min g w.heap.size) w) (by omega) (by omega)) (by have := h.pos; omega)
/-- The buffer, when n bytes of r were copied behind what it held. -/
def putB (buf : Nat → Nat) (h n : Nat) (r : ByteArray) : Nat → Nat := fun i => if h ≤ i ∧ i < h + n then byt r (i - h) else buf i
theorem putB_lt {buf : Nat → Nat} (hb : ∀ i, buf i < 256) (h n : Nat) (r : ByteArray) (i : Nat) : putB buf h n r i < 256 := by
  unfold putB; split
  · exact byt_lt _ _
  · exact hb i
theorem putB_rest {wide : Bool} {p r : ByteArray} {st buf : Nat → Nat} (H : Holds wide p st buf) (n : Nat) (i : Nat) (hi : i < p.size % sizeK wide + n) :
    putB buf (p.size % sizeK wide) n r i = byt (restK wide p ++ r.extract 0 n) i := by
  rw [byt_app, restK_size]
  unfold putB
  by_cases h : i < p.size % sizeK wide
  · rw [if_neg (by omega), if_pos h, H.2.2.2 i h]
  · rw [if_pos (by omega), if_neg h, byt_take r n _ (by omega)]
theorem ext_size (r : ByteArray) (n : Nat) (h : n ≤ r.size) : (r.extract 0 n).size = n := ext_take_size r n h
/-- A part that does not fill the block. -/
theorem Holds.part {wide : Bool} {p r : ByteArray} {st buf : Nat → Nat} (H : Holds wide p st buf) (n : Nat) (hn : n ≤ r.size) (h : p.size % sizeK wide + n < sizeK wide) :
    Holds wide (p ++ r.extract 0 n) st (putB buf (p.size % sizeK wide) n r) := by
  have hz : (restK wide p ++ r.extract 0 n).size < sizeK wide := by rw [ByteArray.size_append, restK_size, ext_size r n hn]; exact h
  have hm : (p ++ r.extract 0 n).size % sizeK wide = p.size % sizeK wide + n := by
    rw [ByteArray.size_append, ext_size r n hn, Nat.add_mod, Nat.mod_eq_of_lt (show n < sizeK wide by omega)]
    exact Nat.mod_eq_of_lt h
  refine ⟨?_, H.2.1, putB_lt H.2.2.1 _ _ _, fun i hi => ?_⟩
  · rw [stvK_on, stvK_small wide _ _ hz]; exact H.1
  · rw [restK_on, restK_small wide _ hz]
    exact putB_rest H n i (by omega)
/-- A part that fills the block, and the state behind it. -/
theorem Holds.full {wide : Bool} {p r : ByteArray} {st st' buf : Nat → Nat} (H : Holds wide p st buf) (n : Nat) (hn : n ≤ r.size) (h : p.size % sizeK wide + n = sizeK wide)
    (h1 : stL st' = blkK wide (restK wide p ++ r.extract 0 n) (stL st)) (h2 : ∀ i, i < 8 → st' i < limK wide) :
    Holds wide (p ++ r.extract 0 n) st' (putB buf (p.size % sizeK wide) n r) := by
  have hz : (restK wide p ++ r.extract 0 n).size = sizeK wide := by rw [ByteArray.size_append, restK_size, ext_size r n hn]; exact h
  have hm : (p ++ r.extract 0 n).size % sizeK wide = 0 := by
    have := Nat.div_add_mod p.size (sizeK wide)
    rw [ByteArray.size_append, ext_size r n hn, show p.size + n = sizeK wide * (p.size / sizeK wide) + sizeK wide by omega, Nat.mul_add_mod, Nat.mod_self]
  refine ⟨?_, h2, putB_lt H.2.2.1 _ _ _, fun i hi => by omega⟩
  rw [stvK_on, stvK_block wide _ _ hz, ← H.1]; exact h1
/-- Bytes as cells. -/
def bytesC (c : ByteArray) : List Value := c.data.toList.map fun x => Value.int .u8 (x.toNat : Int)
theorem bytesC_length (c : ByteArray) : (bytesC c).length = c.size := by simp [bytesC]
theorem bytesC_get (c : ByteArray) (i : Nat) (h : i < c.size) : (bytesC c)[i]? = some (.int .u8 (byt c i : Nat)) := by
  have h' : i < c.data.toList.length := by simpa using h
  simp only [bytesC, byt, List.getElem?_map, List.getD_eq_getElem?_getD, List.getElem?_eq_getElem h', Option.map_some, Option.getD_some]
theorem IsH.setBuf {w : World} {g : Nat} {bits : Int} {st buf : Nat → Nat} {len : Nat} (h : IsH w g bits st buf len) (o n : Nat) (r : ByteArray) (hn : n ≤ r.size) (ho : o + n ≤ 128) : IsH (w.setCells g (9 + o) (bytesC (r.extract 0 n))) g bits st (putB buf o n r) len := by
  have hl : (bytesC (r.extract 0 n)).length = n := by rw [bytesC_length, ext_size r n hn]
  refine World.rowIs.congr (rowIs_setCells _ (9 + o) w _ h) fun i hi => ?_
  rw [hl]
  by_cases h1 : 9 + o ≤ i ∧ i < 9 + o + n
  · rw [if_pos h1, List.getD_eq_getElem?_getD, bytesC_get _ _ (by rw [ext_size r n hn]; omega), byt_take r n _ (by omega)]
    unfold hCell putB
    rw [if_neg (by omega), if_neg (by omega), if_pos (by omega), if_pos (by omega), show i - (9 + o) = i - 9 - o by omega]; rfl
  · rw [if_neg h1]
    unfold hCell putB
    by_cases h0 : i = 0
    · rw [if_pos h0, if_pos h0]
    · by_cases h9 : i < 9
      · rw [if_neg h0, if_neg h0, if_pos h9, if_pos h9]
      · by_cases h7 : i < 137
        · rw [if_neg h0, if_neg h0, if_neg h9, if_neg h9, if_pos h7, if_pos h7, if_neg (by omega)]
        · rw [if_neg h0, if_neg h0, if_neg h9, if_neg h9, if_neg h7, if_neg h7]
theorem IsH.setLen {w : World} {g : Nat} {bits : Int} {st buf : Nat → Nat} {len : Nat} (h : IsH w g bits st buf len) (n : Nat) : IsH (w.setCell ⟨g, 137, none⟩ (.int .u64 (n : Nat))) g bits st buf n := by
  refine World.rowIs.congr (World.rowIs.set h 137 _) fun i hi => ?_
  by_cases h7 : i = 137
  · subst h7; rfl
  · show (if i = 137 then _ else hCell bits st buf len i) = _
    rw [if_neg h7]
    unfold hCell
    rw [if_pos (by omega : i < 137), if_pos (by omega : i < 137)]
/-- 'copy(dst, r)', as many bytes as both have. -/
theorem run_copy_min {P : Program} (w : World) (dT sT ty elem : TypeId) (b o dLen dCap : Nat) (t : ByteArray) (n : Nat) (hn : Nat.min t.size dLen = n)
    (hu : P.underlying dT = some (.slice elem)) (hz : ∀ w, (Go.sizeOf elem).run P w = .ok 1 w) (ht : w.there b o n) :
    (Builtin.copy_ #[dT, sT] ty #[.slice (some ⟨b, o, none⟩) dLen dCap, .string t]).run P w = .ok (goInt n) (w.setCells b o (bytesC (t.extract 0 n))) := by
  have hle : n ≤ t.size := by rw [← hn]; exact Nat.min_le_left _ _
  have hl : (bytesC (t.extract 0 n)).length = n := by rw [bytesC_length, ext_size t n hle]
  have hst := run_storeCells_cells (P := P) b o (bytesC (t.extract 0 n)) 0 w (by rw [hl]; simpa using fun j hj => (ht j hj).1) (by rw [hl]; simpa using fun j hj => (ht j hj).2) (by
    intro v hv
    obtain ⟨x, _, rfl⟩ := List.mem_map.1 hv
    rfl)
  have htk : List.take n (List.map (fun x : UInt8 => Value.int .u8 (x.toNat : Int)) t.data.toList) = bytesC (t.extract 0 n) := by
    rw [← List.map_take]
    unfold bytesC
    rw [show (t.extract 0 n).data.toList = t.data.toList.take n by simp]
  simp only [Nat.add_zero] at hst
  simp [Builtin.copy_, run_underlying hu, Builtin.lenOf, Builtin.firstCells, hz, hn]
  rw [htk, hst]
  rfl
end Go.Proofs.Im
