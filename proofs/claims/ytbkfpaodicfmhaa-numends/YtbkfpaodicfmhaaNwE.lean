/-
  For layer 9's NumEnds: a number's bytes, to which something small is added by hand.
-/
import Derived.Test.YtbkfpaodicfmhaaNwC
import Derived.Laws.IdiomStrings
import Derived.Deep.RegionHeld3
namespace Go.Proofs.Nw
open Go.RowKit Go.Proofs.Nu
open Go.Proofs.Nt
open Go.Proofs.Aes (byt byt_lt get_byt)
/-- n bytes from place o of block g on; none is frozen. -/
def Seg (w : World) (g o n : Nat) (X : Nat → Nat) : Prop := g < w.heap.size ∧ ∀ i, i < n → w.cell? ⟨g, o + i, none⟩ = some (.int .u8 (X i : Nat)) ∧ w.frozen? ⟨g, o + i, none⟩ = false
theorem Seg.lt {w : World} {g o n : Nat} {X : Nat → Nat} (h : Seg w g o n X) : g < w.heap.size := h.1
theorem Seg.on {w u : World} {g o n : Nat} {X : Nat → Nat} (h : Seg w g o n X) (hb : Below w.heap.size w u) : Seg u g o n X :=
  ⟨Nat.lt_of_lt_of_le h.1 hb.size, fun i hi => ⟨(hb.cell (p := ⟨g, o + i, none⟩) h.1).trans (h.2 i hi).1, (hb.frozen (p := ⟨g, o + i, none⟩) h.1).trans (h.2 i hi).2⟩⟩
theorem Seg.drew {w : World} {g o n : Nat} {X : Nat → Nat} (h : Seg w g o n X) : Seg w.drew g o n X := h.on (Below.refl _ _).drew
theorem Seg.congr {w : World} {g o n : Nat} {X Y : Nat → Nat} (h : Seg w g o n X) (e : ∀ i, i < n → X i = Y i) : Seg w g o n Y := ⟨h.1, fun i hi => by rw [← e i hi]; exact h.2 i hi⟩
theorem Seg.cut {w : World} {g o n : Nat} {X : Nat → Nat} (h : Seg w g o n X) (a m : Nat) (ha : a + m ≤ n) : Seg w g (o + a) m (fun i => X (a + i)) :=
  ⟨h.1, fun i hi => by rw [Nat.add_assoc]; exact h.2 (a + i) (by omega)⟩
theorem Seg.text {w : World} {g o n : Nat} {X : Nat → Nat} (h : Seg w g o n X) (c : Nat) : (Go.convert 36 9 (.slice (some ⟨g, o, none⟩) n c)).run Try.prog w = .ok (.string (Lw.pieceS X 0 n)) w := by
  rw [run_convert_bytes_arg (P := Try.prog) w 36 5 Try.underlying36 Try.underlying5 g o n c ((List.range n).map fun t => (X t : Int)) (by simp) (fun i hi => by
    rw [(h.2 i hi).1]
    simp [List.getD_eq_getElem?_getD, List.getElem?_range hi]) 9 Try.underlying9]
  unfold Lw.pieceS
  simp only [Nat.zero_add]
def bytesW (w : World) (s : ByteArray) : World := w.drew.alloc (.cells (bytesRow s (grownCap w s.size 0 5)) 5 ((bytesRow s (grownCap w s.size 0 5)).size, (bytesRow s (grownCap w s.size 0 5)).size + 1))
theorem bytes_run (w : World) (s : ByteArray) : (Go.convert 9 36 (.string s)).run Try.prog w = .ok (.slice (some ⟨w.heap.size, 0, none⟩) s.size (grownCap w s.size 0 5)) (bytesW w s) := run_bytes_of_string w 9 36 5 s Try.underlying9 Try.underlying36 Try.underlying5
theorem bytes_below (w : World) (s : ByteArray) : Below w.heap.size w (bytesW w s) := (Below.refl _ _).drew.alloc (Nat.le_refl _) _
theorem bytes_seg (w : World) (s : ByteArray) : Seg (bytesW w s) w.heap.size 0 s.size (byt s) := by
  unfold bytesW
  generalize grownCap w s.size 0 5 = c
  have hz : s.size ≤ (bytesRow s c).size := by unfold bytesRow; rw [Array.size_append, Array.size_map]; exact Nat.le_add_right _ _
  refine ⟨by show w.heap.size < (w.drew.alloc _).heap.size; simp, fun i hi => ⟨?_, ?_⟩⟩
  · have e : (w.drew.alloc (.cells (bytesRow s c) 5 ((bytesRow s c).size, (bytesRow s c).size + 1))).heap[w.heap.size]? = some (.cells (bytesRow s c) 5 ((bytesRow s c).size, (bytesRow s c).size + 1)) := by
      show (w.heap.push _)[w.heap.size]? = _
      simp
    have hc : (bytesRow s c)[i]? = some (.int .u8 (byt s i : Nat)) := by
      unfold bytesRow
      rw [Array.getElem?_append_left (by rw [Array.size_map]; exact hi), Array.getElem?_map, Array.getElem?_eq_getElem (show i < s.data.size from hi), ← get_byt s i hi]
      rfl
    show (match (w.drew.alloc (.cells (bytesRow s c) 5 ((bytesRow s c).size, (bytesRow s c).size + 1))).heap[w.heap.size]? with | some (.cells c _ _) => c[0 + i]? | _ => none) = _
    rw [e, Nat.zero_add]
    exact hc
  · have e : (w.drew.alloc (.cells (bytesRow s c) 5 ((bytesRow s c).size, (bytesRow s c).size + 1))).heap[w.heap.size]? = some (.cells (bytesRow s c) 5 ((bytesRow s c).size, (bytesRow s c).size + 1)) := by
      show (w.heap.push _)[w.heap.size]? = _
      simp
    have hl : i < (bytesRow s c).size := by omega
    simp only [World.frozen?, e]
    simp
    omega
theorem Seg.set {w : World} {g n : Nat} {X : Nat → Nat} (h : Seg w g 0 n X) (j x : Nat) (hj : j < n) : Seg (w.setCell ⟨g, j, none⟩ (.int .u8 (x : Nat))) g 0 n (fun i => if i = j then x else X i) := by
  refine ⟨Nat.lt_of_lt_of_le h.1 (by simp [World.setCell]), fun i hi => ⟨?_, by rw [World.frozen?_setCell]; exact (h.2 i hi).2⟩⟩
  have hc := (h.2 i hi).1
  rw [Nat.zero_add] at hc ⊢
  by_cases e : i = j
  · subst e
    rw [World.cell?_setCell_same w _ _ hc]; simp
  · rw [World.cell?_setCell_other w _ _ _ (fun q => e (by injection q with _ q _; exact q.symm)), hc]; simp [e]
/-- T's bytes, of which the j lowest are V's. -/
def vb (T V j r : Nat) : Nat := if 31 - r < j then tb V r else tb T r
theorem carry_low {a b : Nat} (h : b ≤ a) : (a - b + b % 256) % 256 = a % 256 := by omega
theorem carry_high {a b : Nat} (h : b ≤ a) : (a - b + b % 256) / 256 = a / 256 - b / 256 := by omega
theorem vb_end {T V j : Nat} (h : j = 32 ∨ V / 256 ^ j = T / 256 ^ j) (r : Nat) (hr : r < 32) : vb T V j r = tb V r := by
  unfold vb
  by_cases h1 : 31 - r < j
  · rw [if_pos h1]
  · rw [if_neg h1]
    rcases h with h | h
    · omega
    · unfold tb
      rw [show 31 - r = j + (31 - r - j) by omega, Nat.pow_add, ← Nat.div_div_eq_div_mul, ← Nat.div_div_eq_div_mul, h]
theorem md_room (z : Int) : md z + 8 < 2 ^ 256 := by
  unfold md
  split
  · decide
  · split <;> decide
theorem square_top {m : Nat} (h : 1 < m) : (m - 1) * (m - 1) % m = 1 := by
  obtain ⟨k, rfl⟩ : ∃ k, m = k + 2 := ⟨m - 2, by omega⟩
  have h1 := Nat.mul_add k k 2
  have h2 := Nat.add_mul k 1 (k + 1)
  have h3 := Nat.mul_add k k 1
  rw [show k + 2 - 1 = k + 1 by omega, show (k + 1) * (k + 1) = 1 + k * (k + 2) by omega, Nat.add_mul_mod_self_right, Nat.mod_eq_of_lt h]
theorem at_start {T V d : Nat} (h : T + (d + 1) = V) : d + 1 + T / 256 ^ 0 = V / 256 ^ 0 := by
  rw [Nat.pow_zero, Nat.div_one, Nat.div_one]; omega
theorem carry_on {T V j c y : Nat} (h : c + T / 256 ^ j = V / 256 ^ j) (hy : T / 256 ^ j % 256 = y) : (c + y) / 256 + T / 256 ^ (j + 1) = V / 256 ^ (j + 1) ∧ (c + y) % 256 = V / 256 ^ j % 256 := by
  rw [Nat.pow_succ, ← Nat.div_div_eq_div_mul, ← Nat.div_div_eq_div_mul]
  generalize T / 256 ^ j = a at h hy ⊢
  generalize V / 256 ^ j = b at h ⊢
  omega
theorem small_carry {d : Nat} (h : d ≤ 7) : d + 1 ≤ 8 := by omega
theorem cast_div (c y : Nat) : ((c : Int) + (y : Int)) / 256 = (((c + y) / 256 : Nat) : Int) := by omega
theorem cast_mod (c y : Nat) : ((c : Int) + (y : Int)) % 256 = (((c + y) % 256 : Nat) : Int) := by omega
theorem carry_small {c y : Nat} (h : c ≤ 8) (hy : y < 256) : (c + y) / 256 ≤ 8 := by omega
theorem meas_down (t : Nat) : (intOf (.int .i64 ((t : Int) - 1)) + 1).toNat < (intOf (.int .i64 (t : Int)) + 1).toNat := by
  show ((t : Int) - 1 + 1).toNat < ((t : Int) + 1).toNat
  omega
theorem vb_on {T V j t x : Nat} (ht : 31 - j = t) (hj : j < 32) (hx : x = V / 256 ^ j % 256) (r : Nat) (hr : r < 32) : (if r = t then x else vb T V j r) = vb T V (j + 1) r := by
  unfold vb
  by_cases e : r = t
  · rw [if_pos e, if_pos (by omega), hx]
    unfold tb
    rw [show 31 - r = j by omega]
  · rw [if_neg e]
    by_cases h : 31 - r < j
    · rw [if_pos h, if_pos (by omega)]
    · rw [if_neg h, if_neg (by omega)]
theorem down_one {j t : Nat} (ht : 31 - j = t) (hj : j < 32) : (t : Int) - 1 = 31 - ((j + 1 : Nat) : Int) := by omega
theorem byte_at {T j t y : Nat} (h : tb T t = y) (ht : 31 - j = t) (hj : j < 32) : T / 256 ^ j % 256 = y := by
  rw [← h]
  unfold tb
  rw [show 31 - t = j by omega]
/-- All bytes are V's: the text. -/
theorem seg_all {w : World} {g T V j : Nat} (h : Seg w g 0 32 (vb T V j)) (e : j = 32 ∨ V / 256 ^ j = T / 256 ^ j) (c : Nat) : (Go.convert 36 9 (.slice (some ⟨g, 0, none⟩) 32 c)).run Try.prog w = .ok (.string (t32 V)) w :=
  (h.congr fun r hr => vb_end e r hr).text c
end Go.Proofs.Nw
