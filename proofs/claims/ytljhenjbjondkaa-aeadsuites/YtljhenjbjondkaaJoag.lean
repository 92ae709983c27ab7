/-
  The document's own answer: ChaCha20's quarter of a round.
-/
import Derived.Test.YtljhenjbjondkaaJoae
import Derived.Test.YtljhenjbjondkaaJoaf
import Derived.Test.YtljhenjbjondkaaJoaa
import Derived.Test.YtljhenjbjondkaaJoac
import Derived.Deep.OwnRows
import Derived.Deep.DeepCutAuto
import Derived.StillTailTactics
import Derived.WalkSmall
import Derived.Laws.Tables
import Derived.Laws.CopyOwn
import Derived.Deep.WholeRow
import Derived.Test.YtljhenjbjondkaaJoab
import Derived.Laws.BytesArg
namespace Go.Proofs.Cha
open Go.RowKit
open Go.Proofs.Im (wp_region_quiet_tail)
open Go.Proofs.Im (wpList_box_to)
open Go.Proofs.Sha (rowIs_of wpList_alloc_to)
/-- Sixteen words, one of them another one. -/
def put (X : Nat → Nat) (i v : Nat) : Nat → Nat := fun t => if t = i then v else X t
def add32 (x y : Nat) : Nat := (x + y) % 4294967296
def q1 (X : Nat → Nat) (a b : Nat) : Nat → Nat := put X a (add32 (X a) (X b))
def q2 (X : Nat → Nat) (d a k : Nat) : Nat → Nat := put X d (rol k (X d ^^^ X a))
def quart (X : Nat → Nat) (a b c d : Nat) : Nat → Nat :=
  let Y := q2 (q1 (q2 (q1 X a b) d a 16) c d) b c 12
  q2 (q1 (q2 (q1 Y a b) d a 8) c d) b c 7
theorem cells_one {c : Array Value} {n : Nat} {f : Nat → Value} (hn : c.size = n) (hc : ∀ i, i < n → c[i]? = some (f i)) (hf : ∀ i, (f i).oneCell' = true) : c.all (·.oneCell') = true := by
  rw [Array.all_eq_true]
  intro i hi
  have := hc i (by omega)
  rw [Array.getElem?_eq_getElem hi] at this
  rw [Option.some.inj this]; exact hf i
def Lt (X : Nat → Nat) : Prop := ∀ t, X t < 4294967296
theorem put_lt {X : Nat → Nat} (h : Lt X) {v : Nat} (hv : v < 4294967296) (i : Nat) : Lt (put X i v) := fun t => by unfold put; split; exact hv; exact h t
theorem q1_lt {X : Nat → Nat} (h : Lt X) (a b : Nat) : Lt (q1 X a b) := put_lt h (Nat.mod_lt _ (by decide)) a
theorem q2_lt {X : Nat → Nat} (h : Lt X) (d a k : Nat) : Lt (q2 X d a k) := put_lt h (rol_lt _ _ (xor32_lt (h _) (h _))) d
/-- A row of sixteen words. -/
def RW (w : World) (g : Nat) (X : Nat → Nat) : Prop := w.rowIs g 82 16 (fun i => .int .u32 (X i : Nat))
theorem RW.set {w : World} {g : Nat} {X : Nat → Nat} (h : RW w g X) (j v : Nat) : RW (w.setCell ⟨g, j, none⟩ (.int .u32 v)) g (put X j v) :=
  World.rowIs.congr (World.rowIs.set h j (.int .u32 v)) fun i _ => by simp only [put]; split <;> rfl
theorem RW.drewN {w : World} {g : Nat} {X : Nat → Nat} (h : RW w g X) (q : Nat) : RW (w.drewN q) g X := h
theorem below_drewN {B : Nat} {w u : World} (h : Below B w u) (q : Nat) : Below B w (u.drewN q) := ⟨h.os, h.tape, h.output, h.size, h.block⟩
def Z16 : Array Value := (List.replicate 16 (Value.int .u32 0)).toArray
theorem alloc16 (w : World) : (Instr.alloc 82 true (.tuple #[])).run Try.prog w = .ok (.pointer (some ⟨w.heap.size, 0, none⟩)) (w.alloc (.cells Z16 82)) := by kernel_rfl
end Go.Proofs.Cha
/-
  The document's own answer: a block of ChaCha20.
-/
namespace Go.Proofs.Cha
open Go.RowKit
open Go.Proofs.Aes (byt byt_lt get_byt)
open Go.Proofs.Sha (rowIs_of wpList_alloc_to wordCells wordCells_get wordCells_size)
open Go.Proofs.Im (words_heap words_one)
/-- The words that a block begins with. -/
def conL : List Nat := [1634760805, 857760878, 2036477234, 1797285236, 0, 0, 0, 0, 0, 0, 0, 0, 0, 0, 0, 0]
def ini (key : ByteArray) (cnt : Nat) (nonce : ByteArray) (t : Nat) : Nat :=
  if t < 4 then conL.getD t 0 else if t < 12 then leN key (4 * (t - 4)) else if t = 12 then cnt else leN nonce (4 * (t - 13))
theorem conL_lt (t : Nat) : conL.getD t 0 < 4294967296 := by
  rw [List.getD_eq_getElem?_getD]
  by_cases h : t < 16
  · have := List.all_eq_true.1 (show (List.range 16).all (fun i => decide (conL.getD i 0 < 4294967296)) = true by decide) t (List.mem_range.2 h)
    rw [← List.getD_eq_getElem?_getD]; simpa using this
  · rw [List.getElem?_eq_none (by show 16 ≤ t; omega)]; decide
theorem ini_lt (key : ByteArray) (cnt : Nat) (nonce : ByteArray) (h : cnt < 4294967296) : Lt (ini key cnt nonce) := fun t => by
  unfold ini
  split
  · exact conL_lt t
  · split
    · exact leN_lt _ _
    · split
      · exact h
      · exact leN_lt _ _
theorem quart_lt {X : Nat → Nat} (h : Lt X) (a b c d : Nat) : Lt (quart X a b c d) :=
  q2_lt (q1_lt (q2_lt (q1_lt (q2_lt (q1_lt (q2_lt (q1_lt h _ _) _ _ _) _ _) _ _ _) _ _) _ _ _) _ _) _ _ _
/-- i columns, i diagonals, r double rounds. -/
def colR (X : Nat → Nat) : Nat → Nat → Nat
  | 0 => X
  | i + 1 => quart (colR X i) i (4 + i) (8 + i) (12 + i)
def diaR (X : Nat → Nat) : Nat → Nat → Nat
  | 0 => X
  | i + 1 => quart (diaR X i) i (4 + (i + 1) % 4) (8 + (i + 2) % 4) (12 + (i + 3) % 4)
def rndR (X : Nat → Nat) : Nat → Nat → Nat
  | 0 => X
  | r + 1 => diaR (colR (rndR X r) 4) 4
theorem colR_lt {X : Nat → Nat} (h : Lt X) (i : Nat) : Lt (colR X i) := by
  induction i with
  | zero => exact h
  | succ i ih => exact quart_lt ih _ _ _ _
theorem diaR_lt {X : Nat → Nat} (h : Lt X) (i : Nat) : Lt (diaR X i) := by
  induction i with
  | zero => exact h
  | succ i ih => exact quart_lt ih _ _ _ _
theorem rndR_lt {X : Nat → Nat} (h : Lt X) (r : Nat) : Lt (rndR X r) := by
  induction r with
  | zero => exact h
  | succ r ih => exact diaR_lt (colR_lt ih 4) 4
/-- Byte t of the block. -/
def chaB (X : Nat → Nat) (t : Nat) : Nat := add32 (X (t / 4)) (rndR X 10 (t / 4)) / 256 ^ (t % 4) % 256
def chaS (key : ByteArray) (cnt : Nat) (nonce : ByteArray) : ByteArray := strOfNums ((List.range 64).map fun t => (chaB (ini key cnt nonce) t : Int))
theorem chaS_size (key : ByteArray) (cnt : Nat) (nonce : ByteArray) : (chaS key cnt nonce).size = 64 := by simp [chaS, strOfNums_size]
theorem RW.congr {w : World} {g : Nat} {X Y : Nat → Nat} (h : RW w g X) (e : ∀ i, i < 16 → X i = Y i) : RW w g Y := World.rowIs.congr h fun i hi => by rw [e i hi]
theorem RW.on {u v : World} {g : Nat} {X : Nat → Nat} (r : RW u g X) (hb : Below u.heap.size u v) : RW v g X := World.rowIs.of_block r (hb.block g (World.rowIs.lt r))
/-- One row is another one, whole. -/
theorem RW.setRow {w : World} {g : Nat} {X : Nat → Nat} (h : RW w g X) (C : Array Value) (Y : Nat → Nat) (hC : C.size = 16) (hY : ∀ i, i < 16 → C[i]? = some (.int .u32 (Y i : Nat))) : RW (w.setRow g C) g Y := by
  obtain ⟨c, hc, _⟩ := h
  exact ⟨C, setRow_heap _ _ _ _ _ _ hc, hC, hY⟩
theorem RW.setOther {w : World} {g g' : Nat} {X : Nat → Nat} (h : RW w g X) (C : Array Value) (hg : g ≠ g') : RW (w.setRow g' C) g X :=
  World.rowIs.of_block h (setRow_other w g' g C hg)
def con0 : Array Value := wordCells .u32 conL
theorem con0_get (i : Nat) (h : i < 16) : con0[i]? = some (.int .u32 (conL.getD i 0 : Nat)) := wordCells_get .u32 conL i h
/-- The words so far: n of the key's. -/
def ini1 (key : ByteArray) (n t : Nat) : Nat := if 4 ≤ t ∧ t < 4 + n then leN key (4 * (t - 4)) else conL.getD t 0
def ini2 (key : ByteArray) (cnt : Nat) (nonce : ByteArray) (n t : Nat) : Nat := if 13 ≤ t ∧ t < 13 + n then leN nonce (4 * (t - 13)) else if t = 12 then cnt else ini1 key 8 t
theorem ini1_succ (key : ByteArray) (n t : Nat) : (if t = 4 + n then leN key (4 * n) else ini1 key n t) = ini1 key (n + 1) t := by
  unfold ini1
  by_cases h : t = 4 + n
  · subst h; rw [if_pos rfl, if_pos (by omega), show 4 + n - 4 = n by omega]
  · rw [if_neg h]
    by_cases h2 : 4 ≤ t ∧ t < 4 + n
    · rw [if_pos h2, if_pos (by omega)]
    · rw [if_neg h2, if_neg (by omega)]
theorem ini2_succ (key : ByteArray) (cnt : Nat) (nonce : ByteArray) (n t : Nat) : (if t = 13 + n then leN nonce (4 * n) else ini2 key cnt nonce n t) = ini2 key cnt nonce (n + 1) t := by
  unfold ini2
  by_cases h : t = 13 + n
  · subst h; rw [if_pos rfl, if_pos (by omega), show 13 + n - 13 = n by omega]
  · rw [if_neg h]
    by_cases h2 : 13 ≤ t ∧ t < 13 + n
    · rw [if_pos h2, if_pos (by omega)]
    · rw [if_neg h2, if_neg (show ¬ (13 ≤ t ∧ t < 13 + (n + 1)) by omega)]
theorem ini2_zero (key : ByteArray) (cnt : Nat) (nonce : ByteArray) (t : Nat) : (if t = 12 then cnt else ini1 key 8 t) = ini2 key cnt nonce 0 t := by
  unfold ini2; rw [if_neg (show ¬ (13 ≤ t ∧ t < 13 + 0) by omega)]
theorem ini2_all (key : ByteArray) (cnt : Nat) (nonce : ByteArray) (t : Nat) (h : t < 16) : ini2 key cnt nonce 3 t = ini key cnt nonce t := by
  unfold ini2 ini ini1
  by_cases h1 : 13 ≤ t ∧ t < 13 + 3
  · rw [if_pos h1, if_neg (by omega), if_neg (by omega), if_neg (by omega)]
  · rw [if_neg h1]
    by_cases h2 : t = 12
    · rw [if_pos h2, if_neg (by omega), if_neg (by omega), if_pos h2]
    · rw [if_neg h2]
      by_cases h3 : t < 4
      · rw [if_pos h3, if_neg (by omega)]
      · rw [if_neg h3, if_pos (by omega), if_pos (show t < 12 by omega)]
end Go.Proofs.Cha
/-
  The document's own answer: a block of ChaCha20, as its text makes it.
-/
namespace Go.Proofs.Cha
open Go.RowKit
open Go.Proofs.Aes (byt byt_lt get_byt)
open Go.Proofs.Sha (rowIs_of wpList_alloc_to wordCells wordCells_get wordCells_size)
open Go.Proofs.Im (words_heap words_one)
/-- Two rows of words: the begin, the state. -/
def Two (w u : World) (g g' : Nat) (X Y : Nat → Nat) : Prop := RW u g X ∧ RW u g' Y ∧ Below w.heap.size w u
theorem Two.on {w u v : World} {g g' : Nat} {X Y : Nat → Nat} (h : Two w u g g' X Y) (hb : Below u.heap.size u v) : Two w v g g' X Y := ⟨h.1.on hb, h.2.1.on hb, Lw.go_on h.2.2 hb⟩
theorem Two.set {w u : World} {g g' : Nat} {X Y : Nat → Nat} (h : Two w u g g' X Y) (hg : g ≠ g') (hw : w.heap.size ≤ g') (C : Array Value) (Z : Nat → Nat) (hC : C.size = 16) (hZ : ∀ i, i < 16 → C[i]? = some (.int .u32 (Z i : Nat))) : Two w (u.setRow g' C) g g' X Z :=
  ⟨h.1.setOther C hg, h.2.1.setRow C Z hC hZ, below_setRow h.2.2 hw C⟩
/-- The bytes so far. -/
def outB (X : Nat → Nat) (n t : Nat) : Nat := if t < n then chaB X t else 0
theorem outB_succ (X : Nat → Nat) (n t : Nat) : (if t = n then chaB X n else outB X n t) = outB X (n + 1) t := by
  unfold outB
  by_cases h : t = n
  · subst h; rw [if_pos rfl, if_pos (Nat.lt_succ_self _)]
  · rw [if_neg h]
    by_cases h2 : t < n
    · rw [if_pos h2, if_pos (by omega)]
    · rw [if_neg h2, if_neg (by omega)]
end Go.Proofs.Cha
/-
  The document's own answer: a text under ChaCha20's stream; Block and Xor at every input.
-/
namespace Go.Proofs.Cha
open Go.RowKit
open Go.Proofs.Aes (byt byt_lt get_byt)
open Go.Proofs.Sha (rowIs_of)
open Go.Proofs.Lw (meas)
/-- Byte t of the text under the stream. -/
def strB (key : ByteArray) (cnt : Nat) (nonce s : ByteArray) (t : Nat) : Nat := byt s t ^^^ byt (chaS key ((cnt + t / 64) % 4294967296) nonce) (t % 64)
def strS (key : ByteArray) (cnt : Nat) (nonce s : ByteArray) : ByteArray := strOfNums ((List.range s.size).map fun t => (strB key cnt nonce s t : Int))
theorem strS_size (key : ByteArray) (cnt : Nat) (nonce s : ByteArray) : (strS key cnt nonce s).size = s.size := by simp [strS, strOfNums_size]
theorem meas64 (z m : Nat) (h : m < z) : z + 64 - (intOf (.int .i64 ((m : Int) + 64))).toNat < z + 64 - (intOf (.int .i64 (m : Int))).toNat := by
  show z + 64 - ((m : Int) + 64).toNat < z + 64 - (m : Int).toNat
  omega
end Go.Proofs.Cha
/-
  ChaCha20: which calls have a form, and what they answer. Of no program.
-/
namespace Go.Proofs.Cha
/-- P6.1's form; P6.2's. -/
def chaOk (key : ByteArray) (cnt : Int) (nonce : ByteArray) : Bool := decide (key.size = 32) && (decide (0 ≤ cnt) && (decide (cnt ≤ 4294967295) && decide (nonce.size = 12)))
def xorOk (key : ByteArray) (cnt : Int) (nonce s : ByteArray) : Bool := chaOk key cnt nonce && decide (s.size ≤ 65536)
def blkS (key : ByteArray) (cnt : Int) (nonce : ByteArray) : ByteArray := bif chaOk key cnt nonce then chaS key cnt.toNat nonce else ⟨#[]⟩
def blkE (key : ByteArray) (cnt : Int) (nonce : ByteArray) : Int := bif chaOk key cnt nonce then 0 else 600
def xorS (key : ByteArray) (cnt : Int) (nonce s : ByteArray) : ByteArray := bif xorOk key cnt nonce s then strS key cnt.toNat nonce s else ⟨#[]⟩
def xorE (key : ByteArray) (cnt : Int) (nonce s : ByteArray) : Int := bif xorOk key cnt nonce s then 0 else 600
theorem chaOk_iff (key : ByteArray) (cnt : Int) (nonce : ByteArray) : chaOk key cnt nonce = true ↔ key.size = 32 ∧ 0 ≤ cnt ∧ cnt ≤ 4294967295 ∧ nonce.size = 12 := by unfold chaOk; simp
theorem xorOk_iff (key : ByteArray) (cnt : Int) (nonce s : ByteArray) : xorOk key cnt nonce s = true ↔ (key.size = 32 ∧ 0 ≤ cnt ∧ cnt ≤ 4294967295 ∧ nonce.size = 12) ∧ s.size ≤ 65536 := by unfold xorOk; rw [Bool.and_eq_true, chaOk_iff]; simp
end Go.Proofs.Cha
