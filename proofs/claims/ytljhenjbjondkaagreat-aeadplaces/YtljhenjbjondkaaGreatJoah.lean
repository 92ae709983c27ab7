/-
  The document's own answer: a block of ChaCha20.
-/
import Derived.Test.YtljhenjbjondkaaGreatJoag
import Derived.Test.YtljhenjbjondkaaGreatJoab
import Derived.Laws.BytesArg
namespace Go.Proofs.Cha
open Go.RowKit
open Go.Proofs.Aes (byt byt_lt get_byt)
open Go.Proofs.Sha (rowIs_of wpList_alloc_to wordCells wordCells_get wordCells_size)
open Go.Proofs.Im (words_heap words_one)
/-- The words that a block begins with. -/
def conL : List Nat := [1634760805, 857760878, 2036477234, 1797285236, 0, 0, 0, 0, 0, 0, 0, 0, 0, 0, 0, 0]
def ini (key : ByteArray) (cnt : Nat) (nonce : ByteArray) (t : Nat) : Nat :=
  if t < 4 then conL.getD t 0 else if t < 12 then leN key (4 * (t - 4)) else if t = 12 then cnt else leN nonce (4 * (t - 13))
theorem conL_lt (t : Nat) : conL.getD t 0 < 4294967296 := by
  rw [List.getD_eq_getElem?_getD]
  by_cases h : t < 16
  · have := List.all_eq_true.1 (show (List.range 16).all (fun i => decide (conL.getD i 0 < 4294967296)) = true by decide) t (List.mem_range.2 h)
    rw [← List.getD_eq_getElem?_getD]; simpa using this
  · rw [List.getElem?_eq_none (by show 16 ≤ t; omega)]; decide
theorem ini_lt (key : ByteArray) (cnt : Nat) (nonce : ByteArray) (h : cnt < 4294967296) : Lt (ini key cnt nonce) := fun t => by
  unfold ini
  split
  · exact conL_lt t
  · split
    · exact leN_lt _ _
    · split
      · exact h
      · exact leN_lt _ _
theorem quart_lt {X : Nat → Nat} (h : Lt X) (a b c d : Nat) : Lt (quart X a b c d) :=
  q2_lt (q1_lt (q2_lt (q1_lt (q2_lt (q1_lt (q2_lt (q1_lt h _ _) _ _ _) _ _) _ _ _) _ _) _ _ _) _ _) _ _ _
/-- i columns, i diagonals, r double rounds. -/
def colR (X : Nat → Nat) : Nat → Nat → Nat
  | 0 => X
  | i + 1 => quart (colR X i) i (4 + i) (8 + i) (12 + i)
def diaR (X : Nat → Nat) : Nat → Nat → Nat
  | 0 => X
  | i + 1 => quart (diaR X i) i (4 + (i + 1) % 4) (8 + (i + 2) % 4) (12 + (i + 3) % 4)
def rndR (X : Nat → Nat) : Nat → Nat → Nat
  | 0 => X
  | r + 1 => diaR (colR (rndR X r) 4) 4
theorem colR_lt {X : Nat → Nat} (h : Lt X) (i : Nat) : Lt (colR X i) := by
  induction i with
  | zero => exact h
  | succ i ih => exact quart_lt ih _ _ _ _
theorem diaR_lt {X : Nat → Nat} (h : Lt X) (i : Nat) : Lt (diaR X i) := by
  induction i with
  | zero => exact h
  | succ i ih => exact quart_lt ih _ _ _ _
theorem rndR_lt {X : Nat → Nat} (h : Lt X) (r : Nat) : Lt (rndR X r) := by
  induction r with
  | zero => exact h
  | succ r ih => exact diaR_lt (colR_lt ih 4) 4
/-- Byte t of the block. -/
def chaB (X : Nat → Nat) (t : Nat) : Nat := add32 (X (t / 4)) (rndR X 10 (t / 4)) / 256 ^ (t % 4) % 256
def chaS (key : ByteArray) (cnt : Nat) (nonce : ByteArray) : ByteArray := strOfNums ((List.range 64).map fun t => (chaB (ini key cnt nonce) t : Int))
theorem chaS_size (key : ByteArray) (cnt : Nat) (nonce : ByteArray) : (chaS key cnt nonce).size = 64 := by simp [chaS, strOfNums_size]
theorem RW.congr {w : World} {g : Nat} {X Y : Nat → Nat} (h : RW w g X) (e : ∀ i, i < 16 → X i = Y i) : RW w g Y := World.rowIs.congr h fun i hi => by rw [e i hi]
theorem RW.on {u v : World} {g : Nat} {X : Nat → Nat} (r : RW u g X) (hb : Below u.heap.size u v) : RW v g X := World.rowIs.of_block r (hb.block g (World.rowIs.lt r))
/-- One row is another one, whole. -/
theorem RW.setRow {w : World} {g : Nat} {X : Nat → Nat} (h : RW w g X) (C : Array Value) (Y : Nat → Nat) (hC : C.size = 16) (hY : ∀ i, i < 16 → C[i]? = some (.int .u32 (Y i : Nat))) : RW (w.setRow g C) g Y := by
  obtain ⟨c, hc, _⟩ := h
  exact ⟨C, setRow_heap _ _ _ _ _ _ hc, hC, hY⟩
theorem RW.setOther {w : World} {g g' : Nat} {X : Nat → Nat} (h : RW w g X) (C : Array Value) (hg : g ≠ g') : RW (w.setRow g' C) g X :=
  World.rowIs.of_block h (setRow_other w g' g C hg)
def con0 : Array Value := wordCells .u32 conL
theorem con0_get (i : Nat) (h : i < 16) : con0[i]? = some (.int .u32 (conL.getD i 0 : Nat)) := wordCells_get .u32 conL i h
/-- The words so far: n of the key's. -/
def ini1 (key : ByteArray) (n t : Nat) : Nat := if 4 ≤ t ∧ t < 4 + n then leN key (4 * (t - 4)) else conL.getD t 0
def ini2 (key : ByteArray) (cnt : Nat) (nonce : ByteArray) (n t : Nat) : Nat := if 13 ≤ t ∧ t < 13 + n then leN nonce (4 * (t - 13)) else if t = 12 then cnt else ini1 key 8 t
theorem ini1_succ (key : ByteArray) (n t : Nat) : (if t = 4 + n then leN key (4 * n) else ini1 key n t) = ini1 key (n + 1) t := by
  unfold ini1
  by_cases h : t = 4 + n
  · subst h; rw [if_pos rfl, if_pos (by omega), show 4 + n - 4 = n by omega]
  · rw [if_neg h]
    by_cases h2 : 4 ≤ t ∧ t < 4 + n
    · rw [if_pos h2, if_pos (by omega)]
    · rw [if_neg h2, if_neg (by omega)]
theorem ini2_succ (key : ByteArray) (cnt : Nat) (nonce : ByteArray) (n t : Nat) : (if t = 13 + n then leN nonce (4 * n) else ini2 key cnt nonce n t) = ini2 key cnt nonce (n + 1) t := by
  unfold ini2
  by_cases h : t = 13 + n
  · subst h; rw [if_pos rfl, if_pos (by omega), show 13 + n - 13 = n by omega]
  · rw [if_neg h]
    by_cases h2 : 13 ≤ t ∧ t < 13 + n
    · rw [if_pos h2, if_pos (by omega)]
    · rw [if_neg h2, if_neg (show ¬ (13 ≤ t ∧ t < 13 + (n + 1)) by omega)]
theorem ini2_zero (key : ByteArray) (cnt : Nat) (nonce : ByteArray) (t : Nat) : (if t = 12 then cnt else ini1 key 8 t) = ini2 key cnt nonce 0 t := by
  unfold ini2; rw [if_neg (show ¬ (13 ≤ t ∧ t < 13 + 0) by omega)]
theorem ini2_all (key : ByteArray) (cnt : Nat) (nonce : ByteArray) (t : Nat) (h : t < 16) : ini2 key cnt nonce 3 t = ini key cnt nonce t := by
  unfold ini2 ini ini1
  by_cases h1 : 13 ≤ t ∧ t < 13 + 3
  · rw [if_pos h1, if_neg (by omega), if_neg (by omega), if_neg (by omega)]
  · rw [if_neg h1]
    by_cases h2 : t = 12
    · rw [if_pos h2, if_neg (by omega), if_neg (by omega), if_pos h2]
    · rw [if_neg h2]
      by_cases h3 : t < 4
      · rw [if_pos h3, if_neg (by omega)]
      · rw [if_neg h3, if_pos (by omega), if_pos (show t < 12 by omega)]
end Go.Proofs.Cha
