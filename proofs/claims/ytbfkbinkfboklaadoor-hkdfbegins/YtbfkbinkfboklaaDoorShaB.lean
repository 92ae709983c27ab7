/-
  The document's own answer: one block of SHA-256.
-/
import Derived.Test.YtbfkbinkfboklaaDoorShaA
import Derived.Test.YtbfkbinkfboklaaDoorShaL
import Derived.Deep.OwnRows
import Derived.Deep.DeepCutAuto
import Derived.StillTailTactics
import Derived.WalkSmall
namespace Go.Proofs.Sha
open Go.RowKit

def kTab : List Nat := [0x428a2f98, 0x71374491, 0xb5c0fbcf, 0xe9b5dba5, 0x3956c25b, 0x59f111f1, 0x923f82a4, 0xab1c5ed5, 0xd807aa98, 0x12835b01, 0x243185be, 0x550c7dc3, 0x72be5d74, 0x80deb1fe, 0x9bdc06a7, 0xc19bf174, 0xe49b69c1, 0xefbe4786, 0x0fc19dc6, 0x240ca1cc, 0x2de92c6f, 0x4a7484aa, 0x5cb0a9dc, 0x76f988da, 0x983e5152, 0xa831c66d, 0xb00327c8, 0xbf597fc7, 0xc6e00bf3, 0xd5a79147, 0x06ca6351, 0x14292967, 0x27b70a85, 0x2e1b2138, 0x4d2c6dfc, 0x53380d13, 0x650a7354, 0x766a0abb, 0x81c2c92e, 0x92722c85, 0xa2bfe8a1, 0xa81a664b, 0xc24b8b70, 0xc76c51a3, 0xd192e819, 0xd6990624, 0xf40e3585, 0x106aa070, 0x19a4c116, 0x1e376c08, 0x2748774c, 0x34b0bcb5, 0x391c0cb3, 0x4ed8aa4a, 0x5b9cca4f, 0x682e6ff3, 0x748f82ee, 0x78a5636f, 0x84c87814, 0x8cc70208, 0x90befffa, 0xa4506ceb, 0xbef9a3f7, 0xc67178f2]
/-- One round, and n rounds. -/
def rnd (k w : Nat) : List Nat → List Nat
  | [a, b, c, d, e, f, g, h] => [((h + us1 e + ch e f g + k + w) % 4294967296 + (us0 a + maj a b c) % 4294967296) % 4294967296, a, b, c, (d + (h + us1 e + ch e f g + k + w) % 4294967296) % 4294967296, e, f, g]
  | v => v
def rnds (ws v : List Nat) : Nat → List Nat
  | 0 => v
  | n + 1 => rnd (kTab.getD n 0) (ws.getD n 0) (rnds ws v n)
/-- One block: the state before, the state behind. -/
def blk (s : ByteArray) (v : List Nat) : List Nat := List.zipWith (fun a b => (a + b) % 4294967296) v (rnds (schL s 48) v 64)
def K64 : Array Value := wordCells .u32 kTab
def Z64 : Array Value := wordCells .u32 (List.replicate 64 0)
theorem alloc64 (w : World) : (Instr.alloc 76 true (.tuple #[])).run Tryd.prog w = .ok (.pointer (some ⟨w.heap.size, 0, none⟩)) (w.alloc (.cells Z64 76)) := by kernel_rfl

/-- What block256 holds while it works: its boxed argument, its result, the table, the schedule. -/
def Mem (n : Nat) (w wr : World) (H W : Nat → Nat) : Prop :=
  wr.heap.size = w.heap.size + n ∧ wr.rowIs w.heap.size 64 8 (fun i => .int .u32 (H i : Nat)) ∧ wr.rowIs (w.heap.size + 1) 64 8 (fun _ => .int .u32 0) ∧
  wr.rowIs (w.heap.size + 1 + 1) 76 64 (fun i => .int .u32 (kTab.getD i 0 : Nat)) ∧ wr.rowIs (w.heap.size + 1 + 1 + 1) 76 64 (fun i => .int .u32 (W i : Nat)) ∧ Below w.heap.size w wr
theorem Mem.set {n : Nat} {w wr : World} {H W : Nat → Nat} (h : Mem n w wr H W) (j v : Nat) : Mem n w (wr.setCell ⟨w.heap.size + 1 + 1 + 1, j, none⟩ (.int .u32 v)).drew H (fun i => if i = j then v else W i) := by
  obtain ⟨h1, h2, h3, h4, h5, h6⟩ := h
  refine ⟨by simpa using h1, (h2.setOther (by simp only []; omega) _).drew, (h3.setOther (by simp only []; omega) _).drew, (h4.setOther (by simp only []; omega) _).drew, ((h5.set j _).congr fun i _ => ?_).drew, (h6.setCell (by simp only []; omega) _).drew⟩
  simp only []
  split <;> rfl
theorem rowIs_drewN {w : World} {b : Nat} {t : TypeId} {n : Nat} {f : Nat → Value} (h : w.rowIs b t n f) (q : Nat) : (w.drewN q).rowIs b t n f := h.of_block (by simp)
theorem Mem.drewN {n : Nat} {w wr : World} {H W : Nat → Nat} (h : Mem n w wr H W) (q : Nat) : Mem n w (wr.drewN q) H W :=
  ⟨by simpa using h.1, rowIs_drewN h.2.1 q, rowIs_drewN h.2.2.1 q, rowIs_drewN h.2.2.2.1 q, rowIs_drewN h.2.2.2.2.1 q, below_drewN h.2.2.2.2.2 q⟩
theorem Mem.wc {n : Nat} {w wr : World} {H W : Nat → Nat} (h : Mem n w wr H W) (t : Nat) (ht : t < 64) : wr.cell? ⟨w.heap.size + 1 + 1 + 1, t, none⟩ = some (.int .u32 (W t : Nat)) := h.2.2.2.2.1.cell ht
theorem Mem.wf {n : Nat} {w wr : World} {H W : Nat → Nat} (h : Mem n w wr H W) (t : Nat) : wr.frozen? ⟨w.heap.size + 1 + 1 + 1, t, none⟩ = false := h.2.2.2.2.1.frozen t
theorem Mem.setH {n : Nat} {w wr : World} {H W : Nat → Nat} (h : Mem n w wr H W) (j v : Nat) : Mem n w (wr.setCell ⟨w.heap.size, j, none⟩ (.int .u32 v)).drew (fun i => if i = j then v else H i) W := by
  obtain ⟨h1, h2, h3, h4, h5, h6⟩ := h
  refine ⟨by simpa using h1, ((h2.set j _).congr fun i _ => ?_).drew, (h3.setOther (by simp only []; omega) _).drew, (h4.setOther (by simp only []; omega) _).drew, (h5.setOther (by simp only []; omega) _).drew, (h6.setCell (by simp only []; omega) _).drew⟩
  simp only []
  split <;> rfl
theorem Mem.hf {n : Nat} {w wr : World} {H W : Nat → Nat} (h : Mem n w wr H W) (t : Nat) : wr.frozen? ⟨w.heap.size, t, none⟩ = false := h.2.1.frozen t
theorem Mem.rc {n : Nat} {w wr : World} {H W : Nat → Nat} (h : Mem n w wr H W) (t : Nat) (ht : t < 8) : wr.cell? ⟨w.heap.size + 1, t, none⟩ = some (.int .u32 0) := h.2.2.1.cell ht
theorem Mem.rf {n : Nat} {w wr : World} {H W : Nat → Nat} (h : Mem n w wr H W) (t : Nat) : wr.frozen? ⟨w.heap.size + 1, t, none⟩ = false := h.2.2.1.frozen t
theorem Mem.kc {n : Nat} {w wr : World} {H W : Nat → Nat} (h : Mem n w wr H W) (t : Nat) (ht : t < 64) : wr.cell? ⟨w.heap.size + 1 + 1, t, none⟩ = some (.int .u32 (kTab.getD t 0 : Nat)) := h.2.2.2.1.cell ht
theorem Mem.hc {n : Nat} {w wr : World} {H W : Nat → Nat} (h : Mem n w wr H W) (t : Nat) (ht : t < 8) : wr.cell? ⟨w.heap.size, t, none⟩ = some (.int .u32 (H t : Nat)) := h.2.1.cell ht
theorem Mem.alloc {n : Nat} {w wr : World} {H W : Nat → Nat} (h : Mem n w wr H W) (o : Obj) : Mem (n + 1) w (wr.alloc o) H W :=
  ⟨by rw [World.size_alloc, h.1]; omega, h.2.1.alloc o, h.2.2.1.alloc o, h.2.2.2.1.alloc o, h.2.2.2.2.1.alloc o, h.2.2.2.2.2.alloc (by have := h.1; omega) o⟩
def hOf (h0 h1 h2 h3 h4 h5 h6 h7 : Nat) : Nat → Nat := fun i => [h0, h1, h2, h3, h4, h5, h6, h7].getD i 0
theorem lt8' {P : Nat → Prop} (h0 : P 0) (h1 : P 1) (h2 : P 2) (h3 : P 3) (h4 : P 4) (h5 : P 5) (h6 : P 6) (h7 : P 7) (i : Nat) (hi : i < 8) : P i := by
  match i, hi with
  | 0, _ => exact h0
  | 1, _ => exact h1
  | 2, _ => exact h2
  | 3, _ => exact h3
  | 4, _ => exact h4
  | 5, _ => exact h5
  | 6, _ => exact h6
  | 7, _ => exact h7
/-- The state row, beside the rest. -/
def Row8 (w wr : World) (a b c d e f g h : Nat) : Prop := wr.rowIs (w.heap.size + 4) 64 8 (fun i => .int .u32 (hOf a b c d e f g h i : Nat))
theorem Row8.setLow {w wr : World} {a b c d e f g h : Nat} (r : Row8 w wr a b c d e f g h) (j : Nat) (v : Value) : Row8 w (wr.setCell ⟨w.heap.size, j, none⟩ v).drew a b c d e f g h := (World.rowIs.setOther r (by simp only []; omega) v).drew
theorem Row8.drewN {w wr : World} {a b c d e f g h : Nat} (r : Row8 w wr a b c d e f g h) (q : Nat) : Row8 w (wr.drewN q) a b c d e f g h := rowIs_drewN r q
def Lt32 (a b c d e f g h : Nat) : Prop := a < 4294967296 ∧ b < 4294967296 ∧ c < 4294967296 ∧ d < 4294967296 ∧ e < 4294967296 ∧ f < 4294967296 ∧ g < 4294967296 ∧ h < 4294967296
theorem Mem.setHigh {n : Nat} {w wr : World} {H W : Nat → Nat} (h : Mem n w wr H W) {a : Addr} (ha : w.heap.size + 4 ≤ a.block) (v : Value) : Mem n w (wr.setCell a v) H W :=
  ⟨by simpa using h.1, h.2.1.setOther (by omega) v, h.2.2.1.setOther (by omega) v, h.2.2.2.1.setOther (by omega) v, h.2.2.2.2.1.setOther (by omega) v, h.2.2.2.2.2.setCell (by omega) v⟩
theorem Row8.set8 {w wr : World} {a b c d e f g h : Nat} (r : Row8 w wr a b c d e f g h) (x0 x1 x2 x3 x4 x5 x6 x7 : Nat) :
    Row8 w ((((((((wr.setCell ⟨w.heap.size + 4, 0, none⟩ (.int .u32 x0)).setCell ⟨w.heap.size + 4, 1, none⟩ (.int .u32 x1)).setCell ⟨w.heap.size + 4, 2, none⟩ (.int .u32 x2)).setCell ⟨w.heap.size + 4, 3, none⟩ (.int .u32 x3)).setCell ⟨w.heap.size + 4, 4, none⟩ (.int .u32 x4)).setCell ⟨w.heap.size + 4, 5, none⟩ (.int .u32 x5)).setCell ⟨w.heap.size + 4, 6, none⟩ (.int .u32 x6)).setCell ⟨w.heap.size + 4, 7, none⟩ (.int .u32 x7)) x0 x1 x2 x3 x4 x5 x6 x7 :=
  World.rowIs.congr ((((((((World.rowIs.set r 0 (.int .u32 x0)).set 1 (.int .u32 x1)).set 2 (.int .u32 x2)).set 3 (.int .u32 x3)).set 4 (.int .u32 x4)).set 5 (.int .u32 x5)).set 6 (.int .u32 x6)).set 7 (.int .u32 x7)) (lt8' rfl rfl rfl rfl rfl rfl rfl rfl)
theorem lt8 {P : Nat → Prop} (h0 : P 0) (h1 : P 1) (h2 : P 2) (h3 : P 3) (h4 : P 4) (h5 : P 5) (h6 : P 6) (h7 : P 7) (i : Nat) (hi : i < 8) : P i := by
  match i, hi with
  | 0, _ => exact h0
  | 1, _ => exact h1
  | 2, _ => exact h2
  | 3, _ => exact h3
  | 4, _ => exact h4
  | 5, _ => exact h5
  | 6, _ => exact h6
  | 7, _ => exact h7

/-- A block's answer. -/
def Ret8 (s : ByteArray) (v : List Nat) (w : World) (e : Ending) (w' : World) : Prop :=
  ∃ x0 x1 x2 x3 x4 x5 x6 x7 : Nat, blk s v = [x0, x1, x2, x3, x4, x5, x6, x7] ∧ Lt32 x0 x1 x2 x3 x4 x5 x6 x7 ∧ e = .returned (.agg #[.int .u32 x0, .int .u32 x1, .int .u32 x2, .int .u32 x3, .int .u32 x4, .int .u32 x5, .int .u32 x6, .int .u32 x7]) ∧ Below w.heap.size w w'
theorem row8_heap {w : World} {b : Nat} {t : TypeId} {f : Nat → Value} (h : w.rowIs b t 8 f) : w.heap[b]? = some (.cells #[f 0, f 1, f 2, f 3, f 4, f 5, f 6, f 7] t (0, 0)) := by
  obtain ⟨c, hc, hn, hf⟩ := h
  rw [hc]
  have : c = #[f 0, f 1, f 2, f 3, f 4, f 5, f 6, f 7] := by
    apply Array.ext_getElem?
    intro i
    by_cases hi : i < 8
    · rw [hf i hi]
      exact lt8 (P := fun i => some (f i) = #[f 0, f 1, f 2, f 3, f 4, f 5, f 6, f 7][i]?) rfl rfl rfl rfl rfl rfl rfl rfl i hi
    · rw [Array.getElem?_eq_none (by omega), Array.getElem?_eq_none (by simp; omega)]
  rw [this]
theorem res_row {w wr : World} {t : TypeId} {f : Nat → Value} (r : wr.rowIs (w.heap.size + 1) t 8 f) (x0 x1 x2 x3 x4 x5 x6 x7 : Nat) :
    ((((((((wr.setCell ⟨w.heap.size + 1, 0, none⟩ (.int .u32 x0)).setCell ⟨w.heap.size + 1, 1, none⟩ (.int .u32 x1)).setCell ⟨w.heap.size + 1, 2, none⟩ (.int .u32 x2)).setCell ⟨w.heap.size + 1, 3, none⟩ (.int .u32 x3)).setCell ⟨w.heap.size + 1, 4, none⟩ (.int .u32 x4)).setCell ⟨w.heap.size + 1, 5, none⟩ (.int .u32 x5)).setCell ⟨w.heap.size + 1, 6, none⟩ (.int .u32 x6)).setCell ⟨w.heap.size + 1, 7, none⟩ (.int .u32 x7)).heap[w.heap.size + 1]? = some (.cells #[.int .u32 x0, .int .u32 x1, .int .u32 x2, .int .u32 x3, .int .u32 x4, .int .u32 x5, .int .u32 x6, .int .u32 x7] t (0, 0)) :=
  row8_heap ((((((((r.set 0 (.int .u32 x0)).set 1 (.int .u32 x1)).set 2 (.int .u32 x2)).set 3 (.int .u32 x3)).set 4 (.int .u32 x4)).set 5 (.int .u32 x5)).set 6 (.int .u32 x6)).set 7 (.int .u32 x7))
theorem mem_start (w : World) (h0 h1 h2 h3 h4 h5 h6 h7 : Nat) :
    Mem 4 w (((((w.alloc (.cells #[.int .u32 h0, .int .u32 h1, .int .u32 h2, .int .u32 h3, .int .u32 h4, .int .u32 h5, .int .u32 h6, .int .u32 h7] 64)).alloc (.cells #[.int .u32 0, .int .u32 0, .int .u32 0, .int .u32 0, .int .u32 0, .int .u32 0, .int .u32 0, .int .u32 0] 64)).alloc (.cells Z64 76)).setRow (w.heap.size + 1 + 1) K64).alloc (.cells Z64 76)) (hOf h0 h1 h2 h3 h4 h5 h6 h7) (fun _ => 0) := by
  have r0 := rowIs_of w #[.int .u32 h0, .int .u32 h1, .int .u32 h2, .int .u32 h3, .int .u32 h4, .int .u32 h5, .int .u32 h6, .int .u32 h7] 64 8 (fun i => .int .u32 (hOf h0 h1 h2 h3 h4 h5 h6 h7 i : Nat)) rfl (lt8 rfl rfl rfl rfl rfl rfl rfl rfl)
  generalize hA : w.alloc (.cells #[.int .u32 h0, .int .u32 h1, .int .u32 h2, .int .u32 h3, .int .u32 h4, .int .u32 h5, .int .u32 h6, .int .u32 h7] 64) = A at r0 ⊢
  have sA : A.heap.size = w.heap.size + 1 := by rw [← hA]; simp
  have bA : Below w.heap.size w A := by rw [← hA]; exact (Below.refl _ _).alloc (Nat.le_refl _) _
  have r1 := rowIs_of A #[.int .u32 0, .int .u32 0, .int .u32 0, .int .u32 0, .int .u32 0, .int .u32 0, .int .u32 0, .int .u32 0] 64 8 (fun _ => .int .u32 0) rfl (lt8 rfl rfl rfl rfl rfl rfl rfl rfl)
  have r0 := r0.alloc (.cells #[.int .u32 0, .int .u32 0, .int .u32 0, .int .u32 0, .int .u32 0, .int .u32 0, .int .u32 0, .int .u32 0] 64)
  generalize hB : A.alloc (.cells #[.int .u32 0, .int .u32 0, .int .u32 0, .int .u32 0, .int .u32 0, .int .u32 0, .int .u32 0, .int .u32 0] 64) = B at r0 r1 ⊢
  have sB : B.heap.size = w.heap.size + 1 + 1 := by rw [← hB]; simp [sA]
  have bB : Below w.heap.size w B := by rw [← hB]; exact bA.alloc (by omega) _
  have hC := heap_alloc_new B (.cells Z64 76)
  have r0 := r0.alloc (.cells Z64 76)
  have r1 := r1.alloc (.cells Z64 76)
  have bC : Below w.heap.size w (B.alloc (.cells Z64 76)) := bB.alloc (by omega) _
  have sC : (B.alloc (.cells Z64 76)).heap.size = w.heap.size + 1 + 1 + 1 := by simp [sB]
  generalize B.alloc (.cells Z64 76) = C at r0 r1 hC bC sC ⊢
  rw [sB] at hC
  rw [sA] at r1
  have k := rowIs_setRow C (w.heap.size + 1 + 1) Z64 K64 76 64 (fun i => .int .u32 (kTab.getD i 0 : Nat)) hC rfl (fun i hi => wordCells_get .u32 kTab i hi)
  have r0 : (C.setRow (w.heap.size + 1 + 1) K64).rowIs w.heap.size 64 8 _ := r0.of_block (setRow_other _ _ _ _ (by omega))
  have r1 : (C.setRow (w.heap.size + 1 + 1) K64).rowIs (w.heap.size + 1) 64 8 _ := r1.of_block (setRow_other _ _ _ _ (by omega))
  have bD : Below w.heap.size w (C.setRow (w.heap.size + 1 + 1) K64) := bC.trans ⟨rfl, rfl, rfl, by simp, fun k hk => setRow_other _ _ _ _ (by omega)⟩
  have sD : (C.setRow (w.heap.size + 1 + 1) K64).heap.size = w.heap.size + 1 + 1 + 1 := by simp [sC]
  generalize C.setRow (w.heap.size + 1 + 1) K64 = D at r0 r1 k bD sD ⊢
  have z := rowIs_of D Z64 76 64 (fun _ => .int .u32 ((0 : Nat) : Int)) rfl (fun i hi => by
    rw [show Z64 = wordCells .u32 (List.replicate 64 0) from rfl, wordCells_get .u32 _ i (by simpa using hi)]
    rw [show (List.replicate 64 0).getD i 0 = 0 by rw [List.getD_eq_getElem?_getD, List.getElem?_replicate]; split <;> rfl])
  rw [sD] at z
  exact ⟨by simp [sD], r0.alloc _, r1.alloc _, k.alloc _, z, bD.alloc (by omega) _⟩

set_option maxHeartbeats 1000000 in
set_option maxRecDepth 100000 in
theorem block256_any (s : ByteArray) (h0 h1 h2 h3 h4 h5 h6 h7 : Nat) (w : World) (hs : s.size = 64) (hb : Lt32 h0 h1 h2 h3 h4 h5 h6 h7) :
    Calls Tryd.prog 37 #[.agg #[.int .u32 h0, .int .u32 h1, .int .u32 h2, .int .u32 h3, .int .u32 h4, .int .u32 h5, .int .u32 h6, .int .u32 h7], .string s] w (Ret8 s [h0, h1, h2, h3, h4, h5, h6, h7] w) := by
  have HB := Lib.hid hb
  clear hb
  go_enter Tryd.func37, Tryd.ntmps37
  go_upto_region 1 with (fail)
  apply wp_region_lit
  refine wpList_build_to rfl 76 _ rfl K64 (by kernel_rfl) ?_
  refine wpList_alloc_to rfl 76 rfl Z64 (w.heap.size + 1 + 1) (by simp) alloc64 ?_
  refine wpList_store_row rfl 76 _ _ rfl (w.heap.size + 1 + 1) K64 rfl rfl 76 Z64 ?_ (by kernel_rfl) rfl (by kernel_rfl) ?_
  · rw [show w.heap.size + 1 + 1 = ((w.alloc (.cells #[.int .u32 h0, .int .u32 h1, .int .u32 h2, .int .u32 h3, .int .u32 h4, .int .u32 h5, .int .u32 h6, .int .u32 h7] 64)).alloc (.cells #[.int .u32 0, .int .u32 0, .int .u32 0, .int .u32 0, .int .u32 0, .int .u32 0, .int .u32 0, .int .u32 0] 64)).heap.size by simp]
    exact heap_alloc_new _ _
  go_upto_region 2 with (fail)
  apply wp_region_lit
  refine wpList_alloc_to rfl 76 rfl Z64 (w.heap.size + 1 + 1 + 1) (by simp) alloc64 ?_
  go_wp2_with (fail)
  go_loopw [7] (fun i wr => ∃ (j : Nat) (W : Nat → Nat), j ≤ 16 ∧ i = .int .i64 j ∧ Hid (∀ t, t < j → W t = word s t) ∧ Hid (∀ t, W t < 4294967296) ∧ Mem 4 w wr (hOf h0 h1 h2 h3 h4 h5 h6 h7) W) (fun i _ => 16 - (intOf i).toNat)
  case atStart =>
    refine ⟨0, fun _ => 0, by omega, rfl, fun t ht => absurd ht (Nat.not_lt_zero t), fun t => Nat.zero_lt_of_lt (show 1 < 4294967296 by decide), ?_⟩
    exact mem_start w h0 h1 h2 h3 h4 h5 h6 h7
  case round =>
    obtain ⟨j, W, hj, rfl, HW, HL, HM⟩ := hrel
    by_cases hlt : j < 16
    · have hc := HM.2.2.2.2.1.cell (i := j) (by omega)
      have hf := HM.2.2.2.2.1.frozen j
      have jb : j < 64 := by omega
      have jb' : (j : Int) < 64 := by omega
      have i0 : 4 * (j : Int) < 64 := by omega
      have i1 : 4 * (j : Int) + 1 < 64 := by omega
      have i2 : 4 * (j : Int) + 2 < 64 := by omega
      have i3 : 4 * (j : Int) + 3 < 64 := by omega
      go_wp2_with (fail)
      have x0 : IntKind.i64.wrap (4 * (j : Int)) = 4 * (j : Int) := IntWalk.i64_in _ (by omega)
      have x1 : IntKind.i64.wrap (4 * (j : Int) + 1) = 4 * (j : Int) + 1 := IntWalk.i64_in _ (by omega)
      have x2 : IntKind.i64.wrap (4 * (j : Int) + 2) = 4 * (j : Int) + 2 := IntWalk.i64_in _ (by omega)
      have x3 : IntKind.i64.wrap (4 * (j : Int) + 3) = 4 * (j : Int) + 3 := IntWalk.i64_in _ (by omega)
      have y0 : (4 * (j : Int)).toNat = 4 * j := by clear x0 x1 x2 x3; omega
      have y1 : (4 * (j : Int) + 1).toNat = 4 * j + 1 := by clear x0 x1 x2 x3; omega
      have y2 : (4 * (j : Int) + 2).toNat = 4 * j + 2 := by clear x0 x1 x2 x3; omega
      have y3 : (4 * (j : Int) + 3).toNat = 4 * j + 3 := by clear x0 x1 x2 x3; omega
      have z0 : 0 ≤ 4 * (j : Int) := by clear x0 x1 x2 x3; omega
      have z1 : 0 ≤ 4 * (j : Int) + 1 := by clear x0 x1 x2 x3; omega
      have z2 : 0 ≤ 4 * (j : Int) + 2 := by clear x0 x1 x2 x3; omega
      have z3 : 0 ≤ 4 * (j : Int) + 3 := by clear x0 x1 x2 x3; omega
      go_still_tail 31, (by kernel_rfl)
      change wpList _ _ _ _ _ wr.drew
      go_wp2_with (fail)
      have hv : bits .or .u32 (bits .or .u32 (bits .or .u32 ((byt s (4 * j) : Int) % 4294967296 * 16777216 % 4294967296) ((byt s (4 * j + 1) : Int) % 4294967296 * 65536 % 4294967296)) ((byt s (4 * j + 2) : Int) % 4294967296 * 256 % 4294967296)) ((byt s (4 * j + 3) : Int) % 4294967296) = (word s j : Nat) := word_or _ _ _ _ (byt_lt _ _) (byt_lt _ _) (byt_lt _ _) (byt_lt _ _)
      simp only [get_byt, hv]
      refine ⟨⟨j + 1, fun i => if i = j then word s j else W i, by omega, by go_num, fun t ht => ?_, fun t => ?_, HM.set j (word s j)⟩, by simp [intOf]; omega⟩
      · show (if t = j then word s j else W t) = word s t
        split
        · next e => rw [e]
        · exact HW.out t (by omega)
      · show (if t = j then word s j else W t) < 4294967296
        split
        · exact word_lt s j
        · exact HL.out t
    · have HW2 : Hid (∀ t, t < 16 → W t = sch s t) := fun t ht => by rw [HW.out t (by omega), sch_word s t ht]
      clear HW hj
      go_wp2_with (fail)
      clear hlt
      go_loopw [8] (fun i wx => ∃ (j : Nat) (W : Nat → Nat), 16 ≤ j ∧ j ≤ 64 ∧ i = .int .i64 j ∧ Hid (∀ t, t < j → W t = sch s t) ∧ Hid (∀ t, W t < 4294967296) ∧ Mem 4 w wx (hOf h0 h1 h2 h3 h4 h5 h6 h7) W) (fun i _ => 64 - (intOf i).toNat)
      case atStart => exact ⟨16, W, by omega, by omega, rfl, HW2, HL, HM⟩
      case round =>
        clear HW2 HL HM
        obtain ⟨j, W, hj16, hj, rfl, HW, HL, HM⟩ := hrel
        by_cases hlt : j < 64
        · have c15 := HM.wc (j - 15) (by omega)
          have jb' : (j : Int) < 64 := by omega
          have z15 : (0 : Int) ≤ (j : Int) - 15 := by omega
          have z2 : (0 : Int) ≤ (j : Int) - 2 := by omega
          have z16 : (0 : Int) ≤ (j : Int) - 16 := by omega
          have z7 : (0 : Int) ≤ (j : Int) - 7 := by omega
          have q15 : (15 : Int) ≤ (j : Int) := by omega
          have q2 : (2 : Int) ≤ (j : Int) := by omega
          have q16 : (16 : Int) ≤ (j : Int) := by omega
          have q7 : (7 : Int) ≤ (j : Int) := by omega
          have b15 : (j : Int) - 15 < 64 := by omega
          have b2 : (j : Int) - 2 < 64 := by omega
          have b16 : (j : Int) - 16 < 64 := by omega
          have b7 : (j : Int) - 7 < 64 := by omega
          have y15 : ((j : Int) - 15).toNat = j - 15 := by omega
          have y2 : ((j : Int) - 2).toNat = j - 2 := by omega
          have y16 : ((j : Int) - 16).toNat = j - 16 := by omega
          have y7 : ((j : Int) - 7).toNat = j - 7 := by omega
          have x15 : IntKind.i64.wrap ((j : Int) - 15) = (j : Int) - 15 := IntWalk.i64_in _ (by omega)
          have x2 : IntKind.i64.wrap ((j : Int) - 2) = (j : Int) - 2 := IntWalk.i64_in _ (by omega)
          have x16 : IntKind.i64.wrap ((j : Int) - 16) = (j : Int) - 16 := IntWalk.i64_in _ (by omega)
          have x7 : IntKind.i64.wrap ((j : Int) - 7) = (j : Int) - 7 := IntWalk.i64_in _ (by omega)
          go_wp2_with (fail)
          go_quiet ((go_at_call 48; exact Calls.quiet_of (rot_any _ _ _ (by decide) (HL.out _))))
          clear c15
          have HM := HM.drewN nq
          generalize wr.drewN nq = w1 at HM ⊢
          have c2 := HM.wc (j - 2) (by clear x15 x2 x16 x7; omega)
          go_wp2_with (fail)
          go_quiet ((go_at_call 48; exact Calls.quiet_of (rot_any _ _ _ (by decide) (HL.out _))))
          clear c2
          have HM := HM.drewN nq
          generalize w1.drewN nq = w2 at HM ⊢
          have c16 := HM.wc (j - 16) (by clear x15 x2 x16 x7; omega)
          have c7 := HM.wc (j - 7) (by clear x15 x2 x16 x7; omega)
          have cj := HM.wc j (by clear x15 x2 x16 x7; omega)
          have hf := HM.wf j
          have jn : j < 64 := hlt
          go_wp2_with (fail)
          go_still_tail 15, (by kernel_rfl)
          change wpList _ _ _ _ _ w2.drew
          clear x15 x2 x16 x7
          go_wp2_with (fail)
          go_roundw
          case rel =>
            refine ⟨j + 1, fun i => if i = j then sch s j else W i, by omega, by omega, by go_num, fun t ht => ?_, fun t => ?_, ?_⟩
            · show (if t = j then sch s j else W t) = sch s t
              split
              · next e => rw [e]
              · exact HW.out t (by omega)
            · show (if t = j then sch s j else W t) < 4294967296
              split
              · exact sch_lt s j jn
              · exact HL.out t
            · have hm := HM.set j (sch s j)
              rw [ls0_bits _ (HL.out _), ls1_bits _ (HL.out _)]
              have hv : (((W (j - 16) : Nat) : Int) + (ls0 (W (j - 15)) : Nat) + (W (j - 7) : Nat) + (ls1 (W (j - 2)) : Nat)) % 4294967296 = (sch s j : Nat) := by
                rw [sch_next s j hj16 jn, ← HW.out (j - 16) (by omega), ← HW.out (j - 15) (by omega), ← HW.out (j - 7) (by omega), ← HW.out (j - 2) (by omega)]
                generalize ls0 (W (j - 15)) = p; generalize ls1 (W (j - 2)) = q; omega
              rw [hv]
              exact hm
          case measure => simp [intOf]; omega
        · have HW2 : Hid (∀ t, t < 64 → W t = sch s t) := fun t ht => HW.out t (by omega)
          clear HW hj hj16
          have g0 := HM.hc 0 (by omega)
          have g1 := HM.hc 1 (by omega)
          have g2 := HM.hc 2 (by omega)
          have g3 := HM.hc 3 (by omega)
          have g4 := HM.hc 4 (by omega)
          have g5 := HM.hc 5 (by omega)
          have g6 := HM.hc 6 (by omega)
          have g7 := HM.hc 7 (by omega)
          have hsz := HM.1
          go_wp2_with (fail)
          have HM5 := HM.alloc (.cells #[.int .u32 (hOf h0 h1 h2 h3 h4 h5 h6 h7 0 : Nat), .int .u32 (hOf h0 h1 h2 h3 h4 h5 h6 h7 1 : Nat), .int .u32 (hOf h0 h1 h2 h3 h4 h5 h6 h7 2 : Nat), .int .u32 (hOf h0 h1 h2 h3 h4 h5 h6 h7 3 : Nat), .int .u32 (hOf h0 h1 h2 h3 h4 h5 h6 h7 4 : Nat), .int .u32 (hOf h0 h1 h2 h3 h4 h5 h6 h7 5 : Nat), .int .u32 (hOf h0 h1 h2 h3 h4 h5 h6 h7 6 : Nat), .int .u32 (hOf h0 h1 h2 h3 h4 h5 h6 h7 7 : Nat)] 64)
          have R8 := rowIs_of wr #[.int .u32 (hOf h0 h1 h2 h3 h4 h5 h6 h7 0 : Nat), .int .u32 (hOf h0 h1 h2 h3 h4 h5 h6 h7 1 : Nat), .int .u32 (hOf h0 h1 h2 h3 h4 h5 h6 h7 2 : Nat), .int .u32 (hOf h0 h1 h2 h3 h4 h5 h6 h7 3 : Nat), .int .u32 (hOf h0 h1 h2 h3 h4 h5 h6 h7 4 : Nat), .int .u32 (hOf h0 h1 h2 h3 h4 h5 h6 h7 5 : Nat), .int .u32 (hOf h0 h1 h2 h3 h4 h5 h6 h7 6 : Nat), .int .u32 (hOf h0 h1 h2 h3 h4 h5 h6 h7 7 : Nat)] 64 8 (fun i => .int .u32 (hOf h0 h1 h2 h3 h4 h5 h6 h7 i : Nat)) rfl (lt8 rfl rfl rfl rfl rfl rfl rfl rfl)
          rw [hsz] at R8
          clear g0 g1 g2 g3 g4 g5 g6 g7 hsz hlt
          go_loopw [12] (fun i wx => ∃ (j a b c d e f g m : Nat), j ≤ 64 ∧ i = .int .i64 j ∧ Hid (rnds (schL s 48) [h0, h1, h2, h3, h4, h5, h6, h7] j = [a, b, c, d, e, f, g, m]) ∧ Hid (Lt32 a b c d e f g m) ∧ Mem 5 w wx (hOf h0 h1 h2 h3 h4 h5 h6 h7) W ∧ Row8 w wx a b c d e f g m) (fun i _ => 64 - (intOf i).toNat)
          case atStart => exact ⟨0, h0, h1, h2, h3, h4, h5, h6, h7, by omega, rfl, rfl, HB, HM5, R8⟩
          case round =>
            clear HM HM5 R8
            obtain ⟨j, a, b, c, d, e, f, g, m, hj, rfl, HR, HL8, HM, HV⟩ := hrel
            by_cases hlt : j < 64
            · have jb' : (j : Int) < 64 := by omega
              have v4 : wr.cell? ⟨w.heap.size + 4, 4, none⟩ = some (.int .u32 (e : Nat)) := HV.cell (i := 4) (by omega)
              go_wp2_with (fail)
              go_quiet ((go_at_call 48; exact Calls.quiet_of (rot_any _ _ _ (by decide) HL8.out.2.2.2.2.1)))
              clear v4
              have HM := HM.drewN nq
              have HV := HV.drewN nq
              generalize wr.drewN nq = w1 at HM HV ⊢
              have v0 : w1.cell? ⟨w.heap.size + 4, 0, none⟩ = some (.int .u32 (a : Nat)) := HV.cell (i := 0) (by omega)
              have v1 : w1.cell? ⟨w.heap.size + 4, 1, none⟩ = some (.int .u32 (b : Nat)) := HV.cell (i := 1) (by omega)
              have v2 : w1.cell? ⟨w.heap.size + 4, 2, none⟩ = some (.int .u32 (c : Nat)) := HV.cell (i := 2) (by omega)
              have v3 : w1.cell? ⟨w.heap.size + 4, 3, none⟩ = some (.int .u32 (d : Nat)) := HV.cell (i := 3) (by omega)
              have v4 : w1.cell? ⟨w.heap.size + 4, 4, none⟩ = some (.int .u32 (e : Nat)) := HV.cell (i := 4) (by omega)
              have v5 : w1.cell? ⟨w.heap.size + 4, 5, none⟩ = some (.int .u32 (f : Nat)) := HV.cell (i := 5) (by omega)
              have v6 : w1.cell? ⟨w.heap.size + 4, 6, none⟩ = some (.int .u32 (g : Nat)) := HV.cell (i := 6) (by omega)
              have v7 : w1.cell? ⟨w.heap.size + 4, 7, none⟩ = some (.int .u32 (m : Nat)) := HV.cell (i := 7) (by omega)
              have kc := HM.kc j hlt
              have wc := HM.wc j hlt
              go_wp2_with (fail)
              go_quiet (fail)
              clear v0 v1 v2 v3 v4 v5 v6 v7 kc wc
              have HM := HM.drewN nq
              have HV := HV.drewN nq
              generalize w1.drewN nq = w2 at HM HV ⊢
              have v0 : w2.cell? ⟨w.heap.size + 4, 0, none⟩ = some (.int .u32 (a : Nat)) := HV.cell (i := 0) (by omega)
              go_wp2_with (fail)
              go_quiet ((go_at_call 48; exact Calls.quiet_of (rot_any _ _ _ (by decide) HL8.out.1)))
              clear v0
              have HM := HM.drewN nq
              have HV := HV.drewN nq
              generalize w2.drewN nq = w3 at HM HV ⊢
              have v0 : w3.cell? ⟨w.heap.size + 4, 0, none⟩ = some (.int .u32 (a : Nat)) := HV.cell (i := 0) (by omega)
              have v1 : w3.cell? ⟨w.heap.size + 4, 1, none⟩ = some (.int .u32 (b : Nat)) := HV.cell (i := 1) (by omega)
              have v2 : w3.cell? ⟨w.heap.size + 4, 2, none⟩ = some (.int .u32 (c : Nat)) := HV.cell (i := 2) (by omega)
              have v3 : w3.cell? ⟨w.heap.size + 4, 3, none⟩ = some (.int .u32 (d : Nat)) := HV.cell (i := 3) (by omega)
              have v4 : w3.cell? ⟨w.heap.size + 4, 4, none⟩ = some (.int .u32 (e : Nat)) := HV.cell (i := 4) (by omega)
              have v5 : w3.cell? ⟨w.heap.size + 4, 5, none⟩ = some (.int .u32 (f : Nat)) := HV.cell (i := 5) (by omega)
              have v6 : w3.cell? ⟨w.heap.size + 4, 6, none⟩ = some (.int .u32 (g : Nat)) := HV.cell (i := 6) (by omega)
              have v7 : w3.cell? ⟨w.heap.size + 4, 7, none⟩ = some (.int .u32 (m : Nat)) := HV.cell (i := 7) (by omega)
              have f0 := World.rowIs.frozen HV 0
              have f1 := World.rowIs.frozen HV 1
              have f2 := World.rowIs.frozen HV 2
              have f3 := World.rowIs.frozen HV 3
              have f4 := World.rowIs.frozen HV 4
              have f5 := World.rowIs.frozen HV 5
              have f6 := World.rowIs.frozen HV 6
              have f7 := World.rowIs.frozen HV 7
              go_wp2_with (fail)
              obtain ⟨la, lb, lc, ld, le, lf, lg, lm⟩ := HL8.out
              rw [us1_bits e le, us0_bits a la, ch_bits e f g le lf lg, maj_bits a b c la lb lc, HW2.out j hlt, ← List.getD_eq_getElem?_getD]
              have t1 : ((m : Int) + (us1 e : Nat) + (ch e f g : Nat) + (kTab.getD j 0 : Nat) + (sch s j : Nat) + ((us0 a : Nat) + (maj a b c : Nat))) % 4294967296 = ((((m + us1 e + ch e f g + kTab.getD j 0 + sch s j) % 4294967296 + (us0 a + maj a b c) % 4294967296) % 4294967296 : Nat) : Int) := by
                generalize us1 e = x1; generalize ch e f g = x2; generalize kTab.getD j 0 = x3; generalize sch s j = x4; generalize us0 a = x5; generalize maj a b c = x6; omega
              have t2 : ((d : Int) + ((m : Int) + (us1 e : Nat) + (ch e f g : Nat) + (kTab.getD j 0 : Nat) + (sch s j : Nat))) % 4294967296 = (((d + (m + us1 e + ch e f g + kTab.getD j 0 + sch s j) % 4294967296) % 4294967296 : Nat) : Int) := by
                generalize us1 e = x1; generalize ch e f g = x2; generalize kTab.getD j 0 = x3; generalize sch s j = x4; omega
              rw [t1, t2]
              have hr : rnds (schL s 48) [h0, h1, h2, h3, h4, h5, h6, h7] (j + 1) = [((m + us1 e + ch e f g + kTab.getD j 0 + sch s j) % 4294967296 + (us0 a + maj a b c) % 4294967296) % 4294967296, a, b, c, (d + (m + us1 e + ch e f g + kTab.getD j 0 + sch s j) % 4294967296) % 4294967296, e, f, g] := by
                show rnd (kTab.getD j 0) ((schL s 48).getD j 0) (rnds (schL s 48) [h0, h1, h2, h3, h4, h5, h6, h7] j) = _
                rw [HR.out]; rfl
              refine ⟨⟨j + 1, _, a, b, c, _, e, f, g, by omega, by go_num, hr, ⟨Nat.mod_lt _ (by decide), la, lb, lc, Nat.mod_lt _ (by decide), le, lf, lg⟩, ?_, HV.set8 _ _ _ _ _ _ _ _⟩, by simp [intOf]; omega⟩
              exact (((((((HM.setHigh (Nat.le_refl _) _).setHigh (Nat.le_refl _) _).setHigh (Nat.le_refl _) _).setHigh (Nat.le_refl _) _).setHigh (Nat.le_refl _) _).setHigh (Nat.le_refl _) _).setHigh (Nat.le_refl _) _).setHigh (Nat.le_refl _) _
            · obtain rfl : j = 64 := by omega
              rw [show ((64 : Nat) : Int) = 64 from rfl]
              clear hlt hj
              go_wp2_with (fail)
              go_loopw [17] (fun i wx => ∃ (j : Nat) (H : Nat → Nat), j ≤ 8 ∧ i = .int .i64 j ∧ Hid (∀ t, t < j → H t = (hOf h0 h1 h2 h3 h4 h5 h6 h7 t + hOf a b c d e f g m t) % 4294967296) ∧ Hid (∀ t, j ≤ t → H t = hOf h0 h1 h2 h3 h4 h5 h6 h7 t) ∧ Mem 5 w wx H W ∧ Row8 w wx a b c d e f g m) (fun i _ => 8 - (intOf i).toNat)
              case atStart => exact ⟨0, hOf h0 h1 h2 h3 h4 h5 h6 h7, by omega, rfl, fun t ht => absurd ht (Nat.not_lt_zero t), fun _ _ => rfl, HM, HV⟩
              case round =>
                clear HM HV
                obtain ⟨j, H, hj, rfl, HD, HU, HM, HV⟩ := hrel
                by_cases hlt : j < 8
                · have jb' : (j : Int) < 8 := by omega
                  have c1 := HM.hc j hlt
                  have c2 := World.rowIs.cell HV (i := j) hlt
                  have hf := HM.hf j
                  go_wp2_with (fail)
                  go_still_tail 9, (by kernel_rfl)
                  change wpList _ _ _ _ _ wr.drew
                  go_wp2_with (fail)
                  have hv : (((H j : Nat) : Int) + (hOf a b c d e f g m j : Nat)) % 4294967296 = (((hOf h0 h1 h2 h3 h4 h5 h6 h7 j + hOf a b c d e f g m j) % 4294967296 : Nat) : Int) := by
                    rw [HU.out j (Nat.le_refl _)]; omega
                  rw [hv]
                  refine ⟨⟨j + 1, fun i => if i = j then (hOf h0 h1 h2 h3 h4 h5 h6 h7 j + hOf a b c d e f g m j) % 4294967296 else H i, by omega, by go_num, fun t ht => ?_, fun t ht => ?_, HM.setH j _, HV.setLow j _⟩, by simp [intOf]; omega⟩
                  · show (if t = j then _ else H t) = _
                    split
                    · next e => rw [e]
                    · exact HD.out t (by omega)
                  · show (if t = j then _ else H t) = _
                    rw [if_neg (by omega)]; exact HU.out t (by omega)
                · obtain rfl : j = 8 := by omega
                  rw [show ((8 : Nat) : Int) = 8 from rfl]
                  have g0 := HM.hc 0 (by omega)
                  have r0 := HM.rc 0 (by omega)
                  have f0 := HM.rf 0
                  have g1 := HM.hc 1 (by omega)
                  have r1 := HM.rc 1 (by omega)
                  have f1 := HM.rf 1
                  have g2 := HM.hc 2 (by omega)
                  have r2 := HM.rc 2 (by omega)
                  have f2 := HM.rf 2
                  have g3 := HM.hc 3 (by omega)
                  have r3 := HM.rc 3 (by omega)
                  have f3 := HM.rf 3
                  have g4 := HM.hc 4 (by omega)
                  have r4 := HM.rc 4 (by omega)
                  have f4 := HM.rf 4
                  have g5 := HM.hc 5 (by omega)
                  have r5 := HM.rc 5 (by omega)
                  have f5 := HM.rf 5
                  have g6 := HM.hc 6 (by omega)
                  have r6 := HM.rc 6 (by omega)
                  have f6 := HM.rf 6
                  have g7 := HM.hc 7 (by omega)
                  have r7 := HM.rc 7 (by omega)
                  have f7 := HM.rf 7
                  go_wp2_with (fail)
                  refine bodyPost_ret (v := .agg #[.int .u32 (H 0 : Nat), .int .u32 (H 1 : Nat), .int .u32 (H 2 : Nat), .int .u32 (H 3 : Nat), .int .u32 (H 4 : Nat), .int .u32 (H 5 : Nat), .int .u32 (H 6 : Nat), .int .u32 (H 7 : Nat)]) ?_ rfl ?_
                  · exact results_cell_row (fn := Tryd.f37) Tryd.results37 _ _ (w.heap.size + 1) 64 _ (0, 0) _ rfl (res_row HM.2.2.1 _ _ _ _ _ _ _ _) Tryd.underlying64 rfl (by kernel_rfl)
                  · have e : ∀ t, t < 8 → H t = (hOf h0 h1 h2 h3 h4 h5 h6 h7 t + hOf a b c d e f g m t) % 4294967296 := HD.out
                    refine ⟨H 0, H 1, H 2, H 3, H 4, H 5, H 6, H 7, ?_, ?_, rfl, ?_⟩
                    · unfold blk
                      rw [HR.out, e 0 (by omega), e 1 (by omega), e 2 (by omega), e 3 (by omega), e 4 (by omega), e 5 (by omega), e 6 (by omega), e 7 (by omega)]
                      rfl
                    · rw [e 0 (by omega), e 1 (by omega), e 2 (by omega), e 3 (by omega), e 4 (by omega), e 5 (by omega), e 6 (by omega), e 7 (by omega)]
                      exact ⟨Nat.mod_lt _ (by decide), Nat.mod_lt _ (by decide), Nat.mod_lt _ (by decide), Nat.mod_lt _ (by decide), Nat.mod_lt _ (by decide), Nat.mod_lt _ (by decide), Nat.mod_lt _ (by decide), Nat.mod_lt _ (by decide)⟩
                    · have hb := HM.2.2.2.2.2
                      exact (((((((hb.setCell (Nat.le_succ _) _).setCell (Nat.le_succ _) _).setCell (Nat.le_succ _) _).setCell (Nat.le_succ _) _).setCell (Nat.le_succ _) _).setCell (Nat.le_succ _) _).setCell (Nat.le_succ _) _).setCell (Nat.le_succ _) _
end Go.Proofs.Sha
