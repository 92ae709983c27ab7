/-
  The document's own answer: one block of SHA-384.
-/
import Derived.Test.YtbfkbinkfboklaaDoorSha5A
import Derived.Test.YtbfkbinkfboklaaDoorShaL
import Derived.Deep.OwnRows
import Derived.Deep.DeepCutAuto
import Derived.StillTailTactics
import Derived.WalkSmall
namespace Go.Proofs.Sha5
open Go.RowKit
open Go.Proofs.Sha (wpList_build_to wpList_alloc_to rowIs_of rowIs_setRow wordCells wordCells_size wordCells_get)

def kTab : List Nat := [0x428a2f98d728ae22, 0x7137449123ef65cd, 0xb5c0fbcfec4d3b2f, 0xe9b5dba58189dbbc, 0x3956c25bf348b538, 0x59f111f1b605d019, 0x923f82a4af194f9b, 0xab1c5ed5da6d8118, 0xd807aa98a3030242, 0x12835b0145706fbe, 0x243185be4ee4b28c, 0x550c7dc3d5ffb4e2, 0x72be5d74f27b896f, 0x80deb1fe3b1696b1, 0x9bdc06a725c71235, 0xc19bf174cf692694, 0xe49b69c19ef14ad2, 0xefbe4786384f25e3, 0x0fc19dc68b8cd5b5, 0x240ca1cc77ac9c65, 0x2de92c6f592b0275, 0x4a7484aa6ea6e483, 0x5cb0a9dcbd41fbd4, 0x76f988da831153b5, 0x983e5152ee66dfab, 0xa831c66d2db43210, 0xb00327c898fb213f, 0xbf597fc7beef0ee4, 0xc6e00bf33da88fc2, 0xd5a79147930aa725, 0x06ca6351e003826f, 0x142929670a0e6e70, 0x27b70a8546d22ffc, 0x2e1b21385c26c926, 0x4d2c6dfc5ac42aed, 0x53380d139d95b3df, 0x650a73548baf63de, 0x766a0abb3c77b2a8, 0x81c2c92e47edaee6, 0x92722c851482353b, 0xa2bfe8a14cf10364, 0xa81a664bbc423001, 0xc24b8b70d0f89791, 0xc76c51a30654be30, 0xd192e819d6ef5218, 0xd69906245565a910, 0xf40e35855771202a, 0x106aa07032bbd1b8, 0x19a4c116b8d2d0c8, 0x1e376c085141ab53, 0x2748774cdf8eeb99, 0x34b0bcb5e19b48a8, 0x391c0cb3c5c95a63, 0x4ed8aa4ae3418acb, 0x5b9cca4f7763e373, 0x682e6ff3d6b2b8a3, 0x748f82ee5defb2fc, 0x78a5636f43172f60, 0x84c87814a1f0ab72, 0x8cc702081a6439ec, 0x90befffa23631e28, 0xa4506cebde82bde9, 0xbef9a3f7b2c67915, 0xc67178f2e372532b, 0xca273eceea26619c, 0xd186b8c721c0c207, 0xeada7dd6cde0eb1e, 0xf57d4f7fee6ed178, 0x06f067aa72176fba, 0x0a637dc5a2c898a6, 0x113f9804bef90dae, 0x1b710b35131c471b, 0x28db77f523047d84, 0x32caab7b40c72493, 0x3c9ebe0a15c9bebc, 0x431d67c49c100d4c, 0x4cc5d4becb3e42b6, 0x597f299cfc657e2a, 0x5fcb6fab3ad6faec, 0x6c44198c4a475817]
/-- One round, and n rounds. -/
def rnd (k w : Nat) : List Nat → List Nat
  | [a, b, c, d, e, f, g, h] => [((h + us1 e + ch e f g + k + w) % 18446744073709551616 + (us0 a + maj a b c) % 18446744073709551616) % 18446744073709551616, a, b, c, (d + (h + us1 e + ch e f g + k + w) % 18446744073709551616) % 18446744073709551616, e, f, g]
  | v => v
def rnds (ws v : List Nat) : Nat → List Nat
  | 0 => v
  | n + 1 => rnd (kTab.getD n 0) (ws.getD n 0) (rnds ws v n)
/-- One block: the state before, the state behind. -/
def blk (s : ByteArray) (v : List Nat) : List Nat := List.zipWith (fun a b => (a + b) % 18446744073709551616) v (rnds (schL s 64) v 80)
def K80 : Array Value := wordCells .u64 kTab
def Z80 : Array Value := wordCells .u64 (List.replicate 80 0)
theorem alloc80 (w : World) : (Instr.alloc 78 true (.tuple #[])).run Tryd.prog w = .ok (.pointer (some ⟨w.heap.size, 0, none⟩)) (w.alloc (.cells Z80 78)) := by kernel_rfl

/-- What block512 holds while it works: its boxed argument, its result, the table, the schedule. -/
def Mem (n : Nat) (w wr : World) (H W : Nat → Nat) : Prop :=
  wr.heap.size = w.heap.size + n ∧ wr.rowIs w.heap.size 68 8 (fun i => .int .u64 (H i : Nat)) ∧ wr.rowIs (w.heap.size + 1) 68 8 (fun _ => .int .u64 0) ∧
  wr.rowIs (w.heap.size + 1 + 1) 78 80 (fun i => .int .u64 (kTab.getD i 0 : Nat)) ∧ wr.rowIs (w.heap.size + 1 + 1 + 1) 78 80 (fun i => .int .u64 (W i : Nat)) ∧ Below w.heap.size w wr
theorem Mem.set {n : Nat} {w wr : World} {H W : Nat → Nat} (h : Mem n w wr H W) (j v : Nat) : Mem n w (wr.setCell ⟨w.heap.size + 1 + 1 + 1, j, none⟩ (.int .u64 v)).drew H (fun i => if i = j then v else W i) := by
  obtain ⟨h1, h2, h3, h4, h5, h6⟩ := h
  refine ⟨by simpa using h1, (h2.setOther (by simp only []; omega) _).drew, (h3.setOther (by simp only []; omega) _).drew, (h4.setOther (by simp only []; omega) _).drew, ((h5.set j _).congr fun i _ => ?_).drew, (h6.setCell (by simp only []; omega) _).drew⟩
  simp only []
  split <;> rfl
theorem rowIs_drewN {w : World} {b : Nat} {t : TypeId} {n : Nat} {f : Nat → Value} (h : w.rowIs b t n f) (q : Nat) : (w.drewN q).rowIs b t n f := h.of_block (by simp)
theorem Mem.drewN {n : Nat} {w wr : World} {H W : Nat → Nat} (h : Mem n w wr H W) (q : Nat) : Mem n w (wr.drewN q) H W :=
  ⟨by simpa using h.1, rowIs_drewN h.2.1 q, rowIs_drewN h.2.2.1 q, rowIs_drewN h.2.2.2.1 q, rowIs_drewN h.2.2.2.2.1 q, below_drewN h.2.2.2.2.2 q⟩
theorem Mem.wc {n : Nat} {w wr : World} {H W : Nat → Nat} (h : Mem n w wr H W) (t : Nat) (ht : t < 80) : wr.cell? ⟨w.heap.size + 1 + 1 + 1, t, none⟩ = some (.int .u64 (W t : Nat)) := h.2.2.2.2.1.cell ht
theorem Mem.wf {n : Nat} {w wr : World} {H W : Nat → Nat} (h : Mem n w wr H W) (t : Nat) : wr.frozen? ⟨w.heap.size + 1 + 1 + 1, t, none⟩ = false := h.2.2.2.2.1.frozen t
theorem Mem.setH {n : Nat} {w wr : World} {H W : Nat → Nat} (h : Mem n w wr H W) (j v : Nat) : Mem n w (wr.setCell ⟨w.heap.size, j, none⟩ (.int .u64 v)).drew (fun i => if i = j then v else H i) W := by
  obtain ⟨h1, h2, h3, h4, h5, h6⟩ := h
  refine ⟨by simpa using h1, ((h2.set j _).congr fun i _ => ?_).drew, (h3.setOther (by simp only []; omega) _).drew, (h4.setOther (by simp only []; omega) _).drew, (h5.setOther (by simp only []; omega) _).drew, (h6.setCell (by simp only []; omega) _).drew⟩
  simp only []
  split <;> rfl
theorem Mem.hf {n : Nat} {w wr : World} {H W : Nat → Nat} (h : Mem n w wr H W) (t : Nat) : wr.frozen? ⟨w.heap.size, t, none⟩ = false := h.2.1.frozen t
theorem Mem.rc {n : Nat} {w wr : World} {H W : Nat → Nat} (h : Mem n w wr H W) (t : Nat) (ht : t < 8) : wr.cell? ⟨w.heap.size + 1, t, none⟩ = some (.int .u64 0) := h.2.2.1.cell ht
theorem Mem.rf {n : Nat} {w wr : World} {H W : Nat → Nat} (h : Mem n w wr H W) (t : Nat) : wr.frozen? ⟨w.heap.size + 1, t, none⟩ = false := h.2.2.1.frozen t
theorem Mem.kc {n : Nat} {w wr : World} {H W : Nat → Nat} (h : Mem n w wr H W) (t : Nat) (ht : t < 80) : wr.cell? ⟨w.heap.size + 1 + 1, t, none⟩ = some (.int .u64 (kTab.getD t 0 : Nat)) := h.2.2.2.1.cell ht
theorem Mem.hc {n : Nat} {w wr : World} {H W : Nat → Nat} (h : Mem n w wr H W) (t : Nat) (ht : t < 8) : wr.cell? ⟨w.heap.size, t, none⟩ = some (.int .u64 (H t : Nat)) := h.2.1.cell ht
theorem Mem.alloc {n : Nat} {w wr : World} {H W : Nat → Nat} (h : Mem n w wr H W) (o : Obj) : Mem (n + 1) w (wr.alloc o) H W :=
  ⟨by rw [World.size_alloc, h.1]; omega, h.2.1.alloc o, h.2.2.1.alloc o, h.2.2.2.1.alloc o, h.2.2.2.2.1.alloc o, h.2.2.2.2.2.alloc (by have := h.1; omega) o⟩
def hOf (h0 h1 h2 h3 h4 h5 h6 h7 : Nat) : Nat → Nat := fun i => [h0, h1, h2, h3, h4, h5, h6, h7].getD i 0
theorem lt8' {P : Nat → Prop} (h0 : P 0) (h1 : P 1) (h2 : P 2) (h3 : P 3) (h4 : P 4) (h5 : P 5) (h6 : P 6) (h7 : P 7) (i : Nat) (hi : i < 8) : P i := by
  match i, hi with
  | 0, _ => exact h0
  | 1, _ => exact h1
  | 2, _ => exact h2
  | 3, _ => exact h3
  | 4, _ => exact h4
  | 5, _ => exact h5
  | 6, _ => exact h6
  | 7, _ => exact h7
/-- The state row, beside the rest. -/
def Row8 (w wr : World) (a b c d e f g h : Nat) : Prop := wr.rowIs (w.heap.size + 4) 68 8 (fun i => .int .u64 (hOf a b c d e f g h i : Nat))
theorem Row8.setLow {w wr : World} {a b c d e f g h : Nat} (r : Row8 w wr a b c d e f g h) (j : Nat) (v : Value) : Row8 w (wr.setCell ⟨w.heap.size, j, none⟩ v).drew a b c d e f g h := (World.rowIs.setOther r (by simp only []; omega) v).drew
theorem Row8.drewN {w wr : World} {a b c d e f g h : Nat} (r : Row8 w wr a b c d e f g h) (q : Nat) : Row8 w (wr.drewN q) a b c d e f g h := rowIs_drewN r q
def Lt64 (a b c d e f g h : Nat) : Prop := a < 18446744073709551616 ∧ b < 18446744073709551616 ∧ c < 18446744073709551616 ∧ d < 18446744073709551616 ∧ e < 18446744073709551616 ∧ f < 18446744073709551616 ∧ g < 18446744073709551616 ∧ h < 18446744073709551616
theorem Mem.setHigh {n : Nat} {w wr : World} {H W : Nat → Nat} (h : Mem n w wr H W) {a : Addr} (ha : w.heap.size + 4 ≤ a.block) (v : Value) : Mem n w (wr.setCell a v) H W :=
  ⟨by simpa using h.1, h.2.1.setOther (by omega) v, h.2.2.1.setOther (by omega) v, h.2.2.2.1.setOther (by omega) v, h.2.2.2.2.1.setOther (by omega) v, h.2.2.2.2.2.setCell (by omega) v⟩
theorem Row8.set8 {w wr : World} {a b c d e f g h : Nat} (r : Row8 w wr a b c d e f g h) (x0 x1 x2 x3 x4 x5 x6 x7 : Nat) :
    Row8 w ((((((((wr.setCell ⟨w.heap.size + 4, 0, none⟩ (.int .u64 x0)).setCell ⟨w.heap.size + 4, 1, none⟩ (.int .u64 x1)).setCell ⟨w.heap.size + 4, 2, none⟩ (.int .u64 x2)).setCell ⟨w.heap.size + 4, 3, none⟩ (.int .u64 x3)).setCell ⟨w.heap.size + 4, 4, none⟩ (.int .u64 x4)).setCell ⟨w.heap.size + 4, 5, none⟩ (.int .u64 x5)).setCell ⟨w.heap.size + 4, 6, none⟩ (.int .u64 x6)).setCell ⟨w.heap.size + 4, 7, none⟩ (.int .u64 x7)) x0 x1 x2 x3 x4 x5 x6 x7 :=
  World.rowIs.congr ((((((((World.rowIs.set r 0 (.int .u64 x0)).set 1 (.int .u64 x1)).set 2 (.int .u64 x2)).set 3 (.int .u64 x3)).set 4 (.int .u64 x4)).set 5 (.int .u64 x5)).set 6 (.int .u64 x6)).set 7 (.int .u64 x7)) (lt8' rfl rfl rfl rfl rfl rfl rfl rfl)
theorem lt8 {P : Nat → Prop} (h0 : P 0) (h1 : P 1) (h2 : P 2) (h3 : P 3) (h4 : P 4) (h5 : P 5) (h6 : P 6) (h7 : P 7) (i : Nat) (hi : i < 8) : P i := by
  match i, hi with
  | 0, _ => exact h0
  | 1, _ => exact h1
  | 2, _ => exact h2
  | 3, _ => exact h3
  | 4, _ => exact h4
  | 5, _ => exact h5
  | 6, _ => exact h6
  | 7, _ => exact h7

/-- A block's answer. -/
def Ret8 (s : ByteArray) (v : List Nat) (w : World) (e : Ending) (w' : World) : Prop :=
  ∃ x0 x1 x2 x3 x4 x5 x6 x7 : Nat, blk s v = [x0, x1, x2, x3, x4, x5, x6, x7] ∧ Lt64 x0 x1 x2 x3 x4 x5 x6 x7 ∧ e = .returned (.agg #[.int .u64 x0, .int .u64 x1, .int .u64 x2, .int .u64 x3, .int .u64 x4, .int .u64 x5, .int .u64 x6, .int .u64 x7]) ∧ Below w.heap.size w w'
theorem row8_heap {w : World} {b : Nat} {t : TypeId} {f : Nat → Value} (h : w.rowIs b t 8 f) : w.heap[b]? = some (.cells #[f 0, f 1, f 2, f 3, f 4, f 5, f 6, f 7] t (0, 0)) := by
  obtain ⟨c, hc, hn, hf⟩ := h
  rw [hc]
  have : c = #[f 0, f 1, f 2, f 3, f 4, f 5, f 6, f 7] := by
    apply Array.ext_getElem?
    intro i
    by_cases hi : i < 8
    · rw [hf i hi]
      exact lt8 (P := fun i => some (f i) = #[f 0, f 1, f 2, f 3, f 4, f 5, f 6, f 7][i]?) rfl rfl rfl rfl rfl rfl rfl rfl i hi
    · rw [Array.getElem?_eq_none (by omega), Array.getElem?_eq_none (by simp; omega)]
  rw [this]
theorem res_row {w wr : World} {t : TypeId} {f : Nat → Value} (r : wr.rowIs (w.heap.size + 1) t 8 f) (x0 x1 x2 x3 x4 x5 x6 x7 : Nat) :
    ((((((((wr.setCell ⟨w.heap.size + 1, 0, none⟩ (.int .u64 x0)).setCell ⟨w.heap.size + 1, 1, none⟩ (.int .u64 x1)).setCell ⟨w.heap.size + 1, 2, none⟩ (.int .u64 x2)).setCell ⟨w.heap.size + 1, 3, none⟩ (.int .u64 x3)).setCell ⟨w.heap.size + 1, 4, none⟩ (.int .u64 x4)).setCell ⟨w.heap.size + 1, 5, none⟩ (.int .u64 x5)).setCell ⟨w.heap.size + 1, 6, none⟩ (.int .u64 x6)).setCell ⟨w.heap.size + 1, 7, none⟩ (.int .u64 x7)).heap[w.heap.size + 1]? = some (.cells #[.int .u64 x0, .int .u64 x1, .int .u64 x2, .int .u64 x3, .int .u64 x4, .int .u64 x5, .int .u64 x6, .int .u64 x7] t (0, 0)) :=
  row8_heap ((((((((r.set 0 (.int .u64 x0)).set 1 (.int .u64 x1)).set 2 (.int .u64 x2)).set 3 (.int .u64 x3)).set 4 (.int .u64 x4)).set 5 (.int .u64 x5)).set 6 (.int .u64 x6)).set 7 (.int .u64 x7))
theorem mem_start (w : World) (h0 h1 h2 h3 h4 h5 h6 h7 : Nat) :
    Mem 4 w (((((w.alloc (.cells #[.int .u64 h0, .int .u64 h1, .int .u64 h2, .int .u64 h3, .int .u64 h4, .int .u64 h5, .int .u64 h6, .int .u64 h7] 68)).alloc (.cells #[.int .u64 0, .int .u64 0, .int .u64 0, .int .u64 0, .int .u64 0, .int .u64 0, .int .u64 0, .int .u64 0] 68)).alloc (.cells Z80 78)).setRow (w.heap.size + 1 + 1) K80).alloc (.cells Z80 78)) (hOf h0 h1 h2 h3 h4 h5 h6 h7) (fun _ => 0) := by
  have r0 := rowIs_of w #[.int .u64 h0, .int .u64 h1, .int .u64 h2, .int .u64 h3, .int .u64 h4, .int .u64 h5, .int .u64 h6, .int .u64 h7] 68 8 (fun i => .int .u64 (hOf h0 h1 h2 h3 h4 h5 h6 h7 i : Nat)) rfl (lt8 rfl rfl rfl rfl rfl rfl rfl rfl)
  generalize hA : w.alloc (.cells #[.int .u64 h0, .int .u64 h1, .int .u64 h2, .int .u64 h3, .int .u64 h4, .int .u64 h5, .int .u64 h6, .int .u64 h7] 68) = A at r0 ⊢
  have sA : A.heap.size = w.heap.size + 1 := by rw [← hA]; simp
  have bA : Below w.heap.size w A := by rw [← hA]; exact (Below.refl _ _).alloc (Nat.le_refl _) _
  have r1 := rowIs_of A #[.int .u64 0, .int .u64 0, .int .u64 0, .int .u64 0, .int .u64 0, .int .u64 0, .int .u64 0, .int .u64 0] 68 8 (fun _ => .int .u64 0) rfl (lt8 rfl rfl rfl rfl rfl rfl rfl rfl)
  have r0 := r0.alloc (.cells #[.int .u64 0, .int .u64 0, .int .u64 0, .int .u64 0, .int .u64 0, .int .u64 0, .int .u64 0, .int .u64 0] 68)
  generalize hB : A.alloc (.cells #[.int .u64 0, .int .u64 0, .int .u64 0, .int .u64 0, .int .u64 0, .int .u64 0, .int .u64 0, .int .u64 0] 68) = B at r0 r1 ⊢
  have sB : B.heap.size = w.heap.size + 1 + 1 := by rw [← hB]; simp [sA]
  have bB : Below w.heap.size w B := by rw [← hB]; exact bA.alloc (by omega) _
  have hC := heap_alloc_new B (.cells Z80 78)
  have r0 := r0.alloc (.cells Z80 78)
  have r1 := r1.alloc (.cells Z80 78)
  have bC : Below w.heap.size w (B.alloc (.cells Z80 78)) := bB.alloc (by omega) _
  have sC : (B.alloc (.cells Z80 78)).heap.size = w.heap.size + 1 + 1 + 1 := by simp [sB]
  generalize B.alloc (.cells Z80 78) = C at r0 r1 hC bC sC ⊢
  rw [sB] at hC
  rw [sA] at r1
  have k := rowIs_setRow C (w.heap.size + 1 + 1) Z80 K80 78 80 (fun i => .int .u64 (kTab.getD i 0 : Nat)) hC rfl (fun i hi => wordCells_get .u64 kTab i hi)
  have r0 : (C.setRow (w.heap.size + 1 + 1) K80).rowIs w.heap.size 68 8 _ := r0.of_block (setRow_other _ _ _ _ (by omega))
  have r1 : (C.setRow (w.heap.size + 1 + 1) K80).rowIs (w.heap.size + 1) 68 8 _ := r1.of_block (setRow_other _ _ _ _ (by omega))
  have bD : Below w.heap.size w (C.setRow (w.heap.size + 1 + 1) K80) := bC.trans ⟨rfl, rfl, rfl, by simp, fun k hk => setRow_other _ _ _ _ (by omega)⟩
  have sD : (C.setRow (w.heap.size + 1 + 1) K80).heap.size = w.heap.size + 1 + 1 + 1 := by simp [sC]
  generalize C.setRow (w.heap.size + 1 + 1) K80 = D at r0 r1 k bD sD ⊢
  have z := rowIs_of D Z80 78 80 (fun _ => .int .u64 ((0 : Nat) : Int)) rfl (fun i hi => by
    rw [show Z80 = wordCells .u64 (List.replicate 80 0) from rfl, wordCells_get .u64 _ i (by simpa using hi)]
    rw [show (List.replicate 80 0).getD i 0 = 0 by rw [List.getD_eq_getElem?_getD, List.getElem?_replicate]; split <;> rfl])
  rw [sD] at z
  exact ⟨by simp [sD], r0.alloc _, r1.alloc _, k.alloc _, z, bD.alloc (by omega) _⟩

set_option maxHeartbeats 1000000 in
set_option maxRecDepth 100000 in
theorem block512_any (s : ByteArray) (h0 h1 h2 h3 h4 h5 h6 h7 : Nat) (w : World) (hs : s.size = 128) (hb : Lt64 h0 h1 h2 h3 h4 h5 h6 h7) :
    Calls Tryd.prog 38 #[.agg #[.int .u64 h0, .int .u64 h1, .int .u64 h2, .int .u64 h3, .int .u64 h4, .int .u64 h5, .int .u64 h6, .int .u64 h7], .string s] w (Ret8 s [h0, h1, h2, h3, h4, h5, h6, h7] w) := by
  have HB := Lib.hid hb
  clear hb
  go_enter Tryd.func38, Tryd.ntmps38
  go_upto_region 1 with (fail)
  apply wp_region_lit
  refine wpList_build_to rfl 78 _ rfl K80 (by kernel_rfl) ?_
  refine wpList_alloc_to rfl 78 rfl Z80 (w.heap.size + 1 + 1) (by simp) alloc80 ?_
  refine wpList_store_row rfl 78 _ _ rfl (w.heap.size + 1 + 1) K80 rfl rfl 78 Z80 ?_ (by kernel_rfl) rfl (by kernel_rfl) ?_
  · rw [show w.heap.size + 1 + 1 = ((w.alloc (.cells #[.int .u64 h0, .int .u64 h1, .int .u64 h2, .int .u64 h3, .int .u64 h4, .int .u64 h5, .int .u64 h6, .int .u64 h7] 68)).alloc (.cells #[.int .u64 0, .int .u64 0, .int .u64 0, .int .u64 0, .int .u64 0, .int .u64 0, .int .u64 0, .int .u64 0] 68)).heap.size by simp]
    exact heap_alloc_new _ _
  go_upto_region 2 with (fail)
  apply wp_region_lit
  refine wpList_alloc_to rfl 78 rfl Z80 (w.heap.size + 1 + 1 + 1) (by simp) alloc80 ?_
  go_wp2_with (fail)
  go_loopw [7] (fun i wr => ∃ (j : Nat) (W : Nat → Nat), j ≤ 16 ∧ i = .int .i64 j ∧ Hid (∀ t, t < j → W t = word s t) ∧ Hid (∀ t, j ≤ t → W t = 0) ∧ Mem 4 w wr (hOf h0 h1 h2 h3 h4 h5 h6 h7) W) (fun i _ => 16 - (intOf i).toNat)
  case atStart =>
    refine ⟨0, fun _ => 0, by omega, rfl, fun t ht => absurd ht (Nat.not_lt_zero t), fun _ _ => rfl, ?_⟩
    exact mem_start w h0 h1 h2 h3 h4 h5 h6 h7
  case round =>
    obtain ⟨j, W, hj, rfl, HW, HL, HM⟩ := hrel
    by_cases hlt : j < 16
    · have d16 : decide ((j : Int) < 16) = true := by simp; omega
      go_wp2_with (fail)
      go_loopw [8] (fun i wx => ∃ (k : Nat) (W : Nat → Nat), k ≤ 8 ∧ i = .int .i64 k ∧ Hid (∀ t, t < j → W t = word s t) ∧ Hid (∀ t, j < t → W t = 0) ∧ Hid (W j = wpart s j k) ∧ Mem 4 w wx (hOf h0 h1 h2 h3 h4 h5 h6 h7) W) (fun i _ => 8 - (intOf i).toNat)
      case atStart => exact ⟨0, W, by omega, rfl, HW, fun t ht => HL.out t (by omega), HL.out j (Nat.le_refl _), HM⟩
      case round =>
        clear HW HL HM
        obtain ⟨k, W, hk, rfl, HW, HL, HK, HM⟩ := hrel
        by_cases hkt : k < 8
        · have cj := HM.wc j (by omega)
          have hf := HM.wf j
          have jn : j < 80 := by omega
          have jb' : (j : Int) < 80 := by omega
          have kn : k ≤ 7 := by omega
          have i0 : 8 * (j : Int) + (k : Int) < 128 := by omega
          have z0 : 0 ≤ 8 * (j : Int) + (k : Int) := by omega
          have y0 : (8 * (j : Int) + (k : Int)).toNat = 8 * j + k := by omega
          have x0 : IntKind.i64.wrap (8 * (j : Int)) = 8 * (j : Int) := IntWalk.i64_in _ (by omega)
          have x1 : IntKind.i64.wrap (8 * (j : Int) + (k : Int)) = 8 * (j : Int) + (k : Int) := IntWalk.i64_in _ (by omega)
          go_wp2_with (fail)
          go_still_tail 14, (by kernel_rfl)
          change wpList _ _ _ _ _ wr.drew
          clear x0 x1
          go_wp2_with (fail)
          go_roundw
          case rel =>
            have hw : wpart s j k < 72057594037927936 := Nat.lt_of_lt_of_le (wpart_lt s j k) (Nat.le_trans (Nat.pow_le_pow_right (by omega) kn) (by decide))
            have hby := byt_lt s (8 * j + k)
            have hv : bits .or .u64 (IntKind.u64.wrap (((W j : Nat) : Int) * 256)) (IntKind.u64.wrap ((byt s (8 * j + k) : Nat) : Int)) = (wpart s j (k + 1) : Nat) := by
              rw [HK.out, IntKind.wrap_u64, IntKind.wrap_u64, show ((wpart s j k : Nat) : Int) * 256 % 18446744073709551616 = ((wpart s j k * 256 : Nat) : Int) by omega, show ((byt s (8 * j + k) : Nat) : Int) % 18446744073709551616 = ((byt s (8 * j + k) : Nat) : Int) by omega, step_or _ _ hw hby]
              rfl
            simp only [get_byt, hv]
            refine ⟨k + 1, fun i => if i = j then wpart s j (k + 1) else W i, by omega, by go_num, fun t ht => ?_, fun t ht => ?_, ?_, HM.set j _⟩
            · show (if t = j then _ else W t) = _
              rw [if_neg (by omega)]; exact HW.out t ht
            · show (if t = j then _ else W t) = _
              rw [if_neg (by omega)]; exact HL.out t ht
            · show (if j = j then _ else W j) = _
              rw [if_pos rfl]
          case measure => simp [intOf]; omega
        · go_wp2_with (fail)
          obtain rfl : k = 8 := by omega
          refine ⟨⟨j + 1, W, by omega, by go_num, fun t ht => ?_, fun t ht => HL.out t (by omega), HM⟩, by simp [intOf]; omega⟩
          by_cases e : t = j
          · rw [e]; exact HK.out
          · exact HW.out t (by omega)
    · have HW2 : Hid (∀ t, t < 16 → W t = sch s t) := fun t ht => by rw [HW.out t (by omega), sch_word s t ht]
      have HL0 : Hid (∀ t, W t < 18446744073709551616) := fun t => by
        by_cases h : t < j
        · rw [HW.out t h]; exact word_lt s t
        · rw [HL.out t (by omega)]; decide
      clear HW HL hj
      have HL := HL0
      clear HL0
      go_wp2_with (fail)
      clear hlt
      go_loopw [9] (fun i wx => ∃ (j : Nat) (W : Nat → Nat), 16 ≤ j ∧ j ≤ 80 ∧ i = .int .i64 j ∧ Hid (∀ t, t < j → W t = sch s t) ∧ Hid (∀ t, W t < 18446744073709551616) ∧ Mem 4 w wx (hOf h0 h1 h2 h3 h4 h5 h6 h7) W) (fun i _ => 80 - (intOf i).toNat)
      case atStart => exact ⟨16, W, by omega, by omega, rfl, HW2, HL, HM⟩
      case round =>
        clear HW2 HL HM
        obtain ⟨j, W, hj16, hj, rfl, HW, HL, HM⟩ := hrel
        by_cases hlt : j < 80
        · have c15 := HM.wc (j - 15) (by omega)
          have jb' : (j : Int) < 80 := by omega
          have z15 : (0 : Int) ≤ (j : Int) - 15 := by omega
          have z2 : (0 : Int) ≤ (j : Int) - 2 := by omega
          have z16 : (0 : Int) ≤ (j : Int) - 16 := by omega
          have z7 : (0 : Int) ≤ (j : Int) - 7 := by omega
          have q15 : (15 : Int) ≤ (j : Int) := by omega
          have q2 : (2 : Int) ≤ (j : Int) := by omega
          have q16 : (16 : Int) ≤ (j : Int) := by omega
          have q7 : (7 : Int) ≤ (j : Int) := by omega
          have b15 : (j : Int) - 15 < 80 := by omega
          have b2 : (j : Int) - 2 < 80 := by omega
          have b16 : (j : Int) - 16 < 80 := by omega
          have b7 : (j : Int) - 7 < 80 := by omega
          have y15 : ((j : Int) - 15).toNat = j - 15 := by omega
          have y2 : ((j : Int) - 2).toNat = j - 2 := by omega
          have y16 : ((j : Int) - 16).toNat = j - 16 := by omega
          have y7 : ((j : Int) - 7).toNat = j - 7 := by omega
          have x15 : IntKind.i64.wrap ((j : Int) - 15) = (j : Int) - 15 := IntWalk.i64_in _ (by omega)
          have x2 : IntKind.i64.wrap ((j : Int) - 2) = (j : Int) - 2 := IntWalk.i64_in _ (by omega)
          have x16 : IntKind.i64.wrap ((j : Int) - 16) = (j : Int) - 16 := IntWalk.i64_in _ (by omega)
          have x7 : IntKind.i64.wrap ((j : Int) - 7) = (j : Int) - 7 := IntWalk.i64_in _ (by omega)
          go_wp2_with (fail)
          go_quiet ((go_at_call 49; exact Calls.quiet_of (rot_any _ _ _ (by decide) (HL.out _))))
          clear c15
          have HM := HM.drewN nq
          generalize wr.drewN nq = w1 at HM ⊢
          have c2 := HM.wc (j - 2) (by clear x15 x2 x16 x7; omega)
          go_wp2_with (fail)
          go_quiet ((go_at_call 49; exact Calls.quiet_of (rot_any _ _ _ (by decide) (HL.out _))))
          clear c2
          have HM := HM.drewN nq
          generalize w1.drewN nq = w2 at HM ⊢
          have c16 := HM.wc (j - 16) (by clear x15 x2 x16 x7; omega)
          have c7 := HM.wc (j - 7) (by clear x15 x2 x16 x7; omega)
          have cj := HM.wc j (by clear x15 x2 x16 x7; omega)
          have hf := HM.wf j
          have jn : j < 80 := hlt
          go_wp2_with (fail)
          go_still_tail 15, (by kernel_rfl)
          change wpList _ _ _ _ _ w2.drew
          clear x15 x2 x16 x7
          go_wp2_with (fail)
          go_roundw
          case rel =>
            refine ⟨j + 1, fun i => if i = j then sch s j else W i, by omega, by omega, by go_num, fun t ht => ?_, fun t => ?_, ?_⟩
            · show (if t = j then sch s j else W t) = sch s t
              split
              · next e => rw [e]
              · exact HW.out t (by omega)
            · show (if t = j then sch s j else W t) < 18446744073709551616
              split
              · exact sch_lt s j jn
              · exact HL.out t
            · have hm := HM.set j (sch s j)
              rw [ls0_bits _ (HL.out _), ls1_bits _ (HL.out _)]
              have hv : IntKind.u64.wrap (IntKind.u64.wrap (IntKind.u64.wrap (((W (j - 16) : Nat) : Int) + (ls0 (W (j - 15)) : Nat)) + (W (j - 7) : Nat)) + (ls1 (W (j - 2)) : Nat)) = (sch s j : Nat) := by
                simp only [IntKind.wrap_u64]
                rw [sch_next s j hj16 jn, ← HW.out (j - 16) (by omega), ← HW.out (j - 15) (by omega), ← HW.out (j - 7) (by omega), ← HW.out (j - 2) (by omega)]
                generalize ls0 (W (j - 15)) = p; generalize ls1 (W (j - 2)) = q; omega
              rw [hv]
              exact hm
          case measure => simp [intOf]; omega
        · have HW2 : Hid (∀ t, t < 80 → W t = sch s t) := fun t ht => HW.out t (by omega)
          clear HW hj hj16
          have g0 := HM.hc 0 (by omega)
          have g1 := HM.hc 1 (by omega)
          have g2 := HM.hc 2 (by omega)
          have g3 := HM.hc 3 (by omega)
          have g4 := HM.hc 4 (by omega)
          have g5 := HM.hc 5 (by omega)
          have g6 := HM.hc 6 (by omega)
          have g7 := HM.hc 7 (by omega)
          have hsz := HM.1
          go_wp2_with (fail)
          have HM5 := HM.alloc (.cells #[.int .u64 (hOf h0 h1 h2 h3 h4 h5 h6 h7 0 : Nat), .int .u64 (hOf h0 h1 h2 h3 h4 h5 h6 h7 1 : Nat), .int .u64 (hOf h0 h1 h2 h3 h4 h5 h6 h7 2 : Nat), .int .u64 (hOf h0 h1 h2 h3 h4 h5 h6 h7 3 : Nat), .int .u64 (hOf h0 h1 h2 h3 h4 h5 h6 h7 4 : Nat), .int .u64 (hOf h0 h1 h2 h3 h4 h5 h6 h7 5 : Nat), .int .u64 (hOf h0 h1 h2 h3 h4 h5 h6 h7 6 : Nat), .int .u64 (hOf h0 h1 h2 h3 h4 h5 h6 h7 7 : Nat)] 68)
          have R8 := rowIs_of wr #[.int .u64 (hOf h0 h1 h2 h3 h4 h5 h6 h7 0 : Nat), .int .u64 (hOf h0 h1 h2 h3 h4 h5 h6 h7 1 : Nat), .int .u64 (hOf h0 h1 h2 h3 h4 h5 h6 h7 2 : Nat), .int .u64 (hOf h0 h1 h2 h3 h4 h5 h6 h7 3 : Nat), .int .u64 (hOf h0 h1 h2 h3 h4 h5 h6 h7 4 : Nat), .int .u64 (hOf h0 h1 h2 h3 h4 h5 h6 h7 5 : Nat), .int .u64 (hOf h0 h1 h2 h3 h4 h5 h6 h7 6 : Nat), .int .u64 (hOf h0 h1 h2 h3 h4 h5 h6 h7 7 : Nat)] 68 8 (fun i => .int .u64 (hOf h0 h1 h2 h3 h4 h5 h6 h7 i : Nat)) rfl (lt8 rfl rfl rfl rfl rfl rfl rfl rfl)
          rw [hsz] at R8
          clear g0 g1 g2 g3 g4 g5 g6 g7 hsz hlt
          go_loopw [13] (fun i wx => ∃ (j a b c d e f g m : Nat), j ≤ 80 ∧ i = .int .i64 j ∧ Hid (rnds (schL s 64) [h0, h1, h2, h3, h4, h5, h6, h7] j = [a, b, c, d, e, f, g, m]) ∧ Hid (Lt64 a b c d e f g m) ∧ Mem 5 w wx (hOf h0 h1 h2 h3 h4 h5 h6 h7) W ∧ Row8 w wx a b c d e f g m) (fun i _ => 80 - (intOf i).toNat)
          case atStart => exact ⟨0, h0, h1, h2, h3, h4, h5, h6, h7, by omega, rfl, rfl, HB, HM5, R8⟩
          case round =>
            clear HM HM5 R8
            obtain ⟨j, a, b, c, d, e, f, g, m, hj, rfl, HR, HL8, HM, HV⟩ := hrel
            by_cases hlt : j < 80
            · have jb' : (j : Int) < 80 := by omega
              have v4 : wr.cell? ⟨w.heap.size + 4, 4, none⟩ = some (.int .u64 (e : Nat)) := HV.cell (i := 4) (by omega)
              go_wp2_with (fail)
              go_quiet ((go_at_call 49; exact Calls.quiet_of (rot_any _ _ _ (by decide) HL8.out.2.2.2.2.1)))
              clear v4
              have HM := HM.drewN nq
              have HV := HV.drewN nq
              generalize wr.drewN nq = w1 at HM HV ⊢
              have v0 : w1.cell? ⟨w.heap.size + 4, 0, none⟩ = some (.int .u64 (a : Nat)) := HV.cell (i := 0) (by omega)
              have v1 : w1.cell? ⟨w.heap.size + 4, 1, none⟩ = some (.int .u64 (b : Nat)) := HV.cell (i := 1) (by omega)
              have v2 : w1.cell? ⟨w.heap.size + 4, 2, none⟩ = some (.int .u64 (c : Nat)) := HV.cell (i := 2) (by omega)
              have v3 : w1.cell? ⟨w.heap.size + 4, 3, none⟩ = some (.int .u64 (d : Nat)) := HV.cell (i := 3) (by omega)
              have v4 : w1.cell? ⟨w.heap.size + 4, 4, none⟩ = some (.int .u64 (e : Nat)) := HV.cell (i := 4) (by omega)
              have v5 : w1.cell? ⟨w.heap.size + 4, 5, none⟩ = some (.int .u64 (f : Nat)) := HV.cell (i := 5) (by omega)
              have v6 : w1.cell? ⟨w.heap.size + 4, 6, none⟩ = some (.int .u64 (g : Nat)) := HV.cell (i := 6) (by omega)
              have v7 : w1.cell? ⟨w.heap.size + 4, 7, none⟩ = some (.int .u64 (m : Nat)) := HV.cell (i := 7) (by omega)
              have kc := HM.kc j hlt
              have wc := HM.wc j hlt
              go_wp2_with (fail)
              go_quiet (fail)
              clear v0 v1 v2 v3 v4 v5 v6 v7 kc wc
              have HM := HM.drewN nq
              have HV := HV.drewN nq
              generalize w1.drewN nq = w2 at HM HV ⊢
              have v0 : w2.cell? ⟨w.heap.size + 4, 0, none⟩ = some (.int .u64 (a : Nat)) := HV.cell (i := 0) (by omega)
              go_wp2_with (fail)
              go_quiet ((go_at_call 49; exact Calls.quiet_of (rot_any _ _ _ (by decide) HL8.out.1)))
              clear v0
              have HM := HM.drewN nq
              have HV := HV.drewN nq
              generalize w2.drewN nq = w3 at HM HV ⊢
              have v0 : w3.cell? ⟨w.heap.size + 4, 0, none⟩ = some (.int .u64 (a : Nat)) := HV.cell (i := 0) (by omega)
              have v1 : w3.cell? ⟨w.heap.size + 4, 1, none⟩ = some (.int .u64 (b : Nat)) := HV.cell (i := 1) (by omega)
              have v2 : w3.cell? ⟨w.heap.size + 4, 2, none⟩ = some (.int .u64 (c : Nat)) := HV.cell (i := 2) (by omega)
              have v3 : w3.cell? ⟨w.heap.size + 4, 3, none⟩ = some (.int .u64 (d : Nat)) := HV.cell (i := 3) (by omega)
              have v4 : w3.cell? ⟨w.heap.size + 4, 4, none⟩ = some (.int .u64 (e : Nat)) := HV.cell (i := 4) (by omega)
              have v5 : w3.cell? ⟨w.heap.size + 4, 5, none⟩ = some (.int .u64 (f : Nat)) := HV.cell (i := 5) (by omega)
              have v6 : w3.cell? ⟨w.heap.size + 4, 6, none⟩ = some (.int .u64 (g : Nat)) := HV.cell (i := 6) (by omega)
              have v7 : w3.cell? ⟨w.heap.size + 4, 7, none⟩ = some (.int .u64 (m : Nat)) := HV.cell (i := 7) (by omega)
              have f0 := World.rowIs.frozen HV 0
              have f1 := World.rowIs.frozen HV 1
              have f2 := World.rowIs.frozen HV 2
              have f3 := World.rowIs.frozen HV 3
              have f4 := World.rowIs.frozen HV 4
              have f5 := World.rowIs.frozen HV 5
              have f6 := World.rowIs.frozen HV 6
              have f7 := World.rowIs.frozen HV 7
              go_wp2_with (fail)
              obtain ⟨la, lb, lc, ld, le, lf, lg, lm⟩ := HL8.out
              rw [us1_bits e le, us0_bits a la, ch_bits e f g le lf lg, maj_bits a b c la lb lc, HW2.out j hlt, ← List.getD_eq_getElem?_getD]
              have t1 : IntKind.u64.wrap (IntKind.u64.wrap (IntKind.u64.wrap (IntKind.u64.wrap (IntKind.u64.wrap ((m : Int) + (us1 e : Nat)) + (ch e f g : Nat)) + (kTab.getD j 0 : Nat)) + (sch s j : Nat)) + IntKind.u64.wrap (((us0 a : Nat) : Int) + (maj a b c : Nat))) = ((((m + us1 e + ch e f g + kTab.getD j 0 + sch s j) % 18446744073709551616 + (us0 a + maj a b c) % 18446744073709551616) % 18446744073709551616 : Nat) : Int) := by
                simp only [IntKind.wrap_u64]
                generalize us1 e = x1; generalize ch e f g = x2; generalize kTab.getD j 0 = x3; generalize sch s j = x4; generalize us0 a = x5; generalize maj a b c = x6; omega
              have t2 : IntKind.u64.wrap ((d : Int) + IntKind.u64.wrap (IntKind.u64.wrap (IntKind.u64.wrap (IntKind.u64.wrap ((m : Int) + (us1 e : Nat)) + (ch e f g : Nat)) + (kTab.getD j 0 : Nat)) + (sch s j : Nat))) = (((d + (m + us1 e + ch e f g + kTab.getD j 0 + sch s j) % 18446744073709551616) % 18446744073709551616 : Nat) : Int) := by
                simp only [IntKind.wrap_u64]
                generalize us1 e = x1; generalize ch e f g = x2; generalize kTab.getD j 0 = x3; generalize sch s j = x4; omega
              rw [t1, t2]
              have hr : rnds (schL s 64) [h0, h1, h2, h3, h4, h5, h6, h7] (j + 1) = [((m + us1 e + ch e f g + kTab.getD j 0 + sch s j) % 18446744073709551616 + (us0 a + maj a b c) % 18446744073709551616) % 18446744073709551616, a, b, c, (d + (m + us1 e + ch e f g + kTab.getD j 0 + sch s j) % 18446744073709551616) % 18446744073709551616, e, f, g] := by
                show rnd (kTab.getD j 0) ((schL s 64).getD j 0) (rnds (schL s 64) [h0, h1, h2, h3, h4, h5, h6, h7] j) = _
                rw [HR.out]; rfl
              refine ⟨⟨j + 1, _, a, b, c, _, e, f, g, by omega, by go_num, hr, ⟨Nat.mod_lt _ (by decide), la, lb, lc, Nat.mod_lt _ (by decide), le, lf, lg⟩, ?_, HV.set8 _ _ _ _ _ _ _ _⟩, by simp [intOf]; omega⟩
              exact (((((((HM.setHigh (Nat.le_refl _) _).setHigh (Nat.le_refl _) _).setHigh (Nat.le_refl _) _).setHigh (Nat.le_refl _) _).setHigh (Nat.le_refl _) _).setHigh (Nat.le_refl _) _).setHigh (Nat.le_refl _) _).setHigh (Nat.le_refl _) _
            · obtain rfl : j = 80 := by omega
              rw [show ((80 : Nat) : Int) = 80 from rfl]
              clear hlt hj
              go_wp2_with (fail)
              go_loopw [18] (fun i wx => ∃ (j : Nat) (H : Nat → Nat), j ≤ 8 ∧ i = .int .i64 j ∧ Hid (∀ t, t < j → H t = (hOf h0 h1 h2 h3 h4 h5 h6 h7 t + hOf a b c d e f g m t) % 18446744073709551616) ∧ Hid (∀ t, j ≤ t → H t = hOf h0 h1 h2 h3 h4 h5 h6 h7 t) ∧ Mem 5 w wx H W ∧ Row8 w wx a b c d e f g m) (fun i _ => 8 - (intOf i).toNat)
              case atStart => exact ⟨0, hOf h0 h1 h2 h3 h4 h5 h6 h7, by omega, rfl, fun t ht => absurd ht (Nat.not_lt_zero t), fun _ _ => rfl, HM, HV⟩
              case round =>
                clear HM HV
                obtain ⟨j, H, hj, rfl, HD, HU, HM, HV⟩ := hrel
                by_cases hlt : j < 8
                · have jb' : (j : Int) < 8 := by omega
                  have c1 := HM.hc j hlt
                  have c2 := World.rowIs.cell HV (i := j) hlt
                  have hf := HM.hf j
                  go_wp2_with (fail)
                  go_still_tail 9, (by kernel_rfl)
                  change wpList _ _ _ _ _ wr.drew
                  go_wp2_with (fail)
                  have hv : IntKind.u64.wrap (((H j : Nat) : Int) + (hOf a b c d e f g m j : Nat)) = (((hOf h0 h1 h2 h3 h4 h5 h6 h7 j + hOf a b c d e f g m j) % 18446744073709551616 : Nat) : Int) := by
                    rw [HU.out j (Nat.le_refl _), IntKind.wrap_u64]; omega
                  rw [hv]
                  refine ⟨⟨j + 1, fun i => if i = j then (hOf h0 h1 h2 h3 h4 h5 h6 h7 j + hOf a b c d e f g m j) % 18446744073709551616 else H i, by omega, by go_num, fun t ht => ?_, fun t ht => ?_, HM.setH j _, HV.setLow j _⟩, by simp [intOf]; omega⟩
                  · show (if t = j then _ else H t) = _
                    split
                    · next e => rw [e]
                    · exact HD.out t (by omega)
                  · show (if t = j then _ else H t) = _
                    rw [if_neg (by omega)]; exact HU.out t (by omega)
                · obtain rfl : j = 8 := by omega
                  rw [show ((8 : Nat) : Int) = 8 from rfl]
                  have g0 := HM.hc 0 (by omega)
                  have r0 := HM.rc 0 (by omega)
                  have f0 := HM.rf 0
                  have g1 := HM.hc 1 (by omega)
                  have r1 := HM.rc 1 (by omega)
                  have f1 := HM.rf 1
                  have g2 := HM.hc 2 (by omega)
                  have r2 := HM.rc 2 (by omega)
                  have f2 := HM.rf 2
                  have g3 := HM.hc 3 (by omega)
                  have r3 := HM.rc 3 (by omega)
                  have f3 := HM.rf 3
                  have g4 := HM.hc 4 (by omega)
                  have r4 := HM.rc 4 (by omega)
                  have f4 := HM.rf 4
                  have g5 := HM.hc 5 (by omega)
                  have r5 := HM.rc 5 (by omega)
                  have f5 := HM.rf 5
                  have g6 := HM.hc 6 (by omega)
                  have r6 := HM.rc 6 (by omega)
                  have f6 := HM.rf 6
                  have g7 := HM.hc 7 (by omega)
                  have r7 := HM.rc 7 (by omega)
                  have f7 := HM.rf 7
                  go_wp2_with (fail)
                  refine bodyPost_ret (v := .agg #[.int .u64 (H 0 : Nat), .int .u64 (H 1 : Nat), .int .u64 (H 2 : Nat), .int .u64 (H 3 : Nat), .int .u64 (H 4 : Nat), .int .u64 (H 5 : Nat), .int .u64 (H 6 : Nat), .int .u64 (H 7 : Nat)]) ?_ rfl ?_
                  · exact results_cell_row (fn := Tryd.f38) Tryd.results38 _ _ (w.heap.size + 1) 68 _ (0, 0) _ rfl (res_row HM.2.2.1 _ _ _ _ _ _ _ _) Tryd.underlying68 rfl (by kernel_rfl)
                  · have e : ∀ t, t < 8 → H t = (hOf h0 h1 h2 h3 h4 h5 h6 h7 t + hOf a b c d e f g m t) % 18446744073709551616 := HD.out
                    refine ⟨H 0, H 1, H 2, H 3, H 4, H 5, H 6, H 7, ?_, ?_, rfl, ?_⟩
                    · unfold blk
                      rw [HR.out, e 0 (by omega), e 1 (by omega), e 2 (by omega), e 3 (by omega), e 4 (by omega), e 5 (by omega), e 6 (by omega), e 7 (by omega)]
                      rfl
                    · rw [e 0 (by omega), e 1 (by omega), e 2 (by omega), e 3 (by omega), e 4 (by omega), e 5 (by omega), e 6 (by omega), e 7 (by omega)]
                      exact ⟨Nat.mod_lt _ (by decide), Nat.mod_lt _ (by decide), Nat.mod_lt _ (by decide), Nat.mod_lt _ (by decide), Nat.mod_lt _ (by decide), Nat.mod_lt _ (by decide), Nat.mod_lt _ (by decide), Nat.mod_lt _ (by decide)⟩
                    · have hb := HM.2.2.2.2.2
                      exact (((((((hb.setCell (Nat.le_succ _) _).setCell (Nat.le_succ _) _).setCell (Nat.le_succ _) _).setCell (Nat.le_succ _) _).setCell (Nat.le_succ _) _).setCell (Nat.le_succ _) _).setCell (Nat.le_succ _) _).setCell (Nat.le_succ _) _
end Go.Proofs.Sha5
