/-
  The developers' aes: a key's cipher in memory, its table, a column's substitutes.
-/
import Derived.Test.YtfjodabkfjfcbaaAeB
import Derived.Deep.DeepCutAuto
import Derived.StillTailTactics
import Derived.WalkSmall
import Derived.Laws.Tables
namespace Go.Proofs.Ae
open Go.RowKit
open Go.Proofs.Aes
open Go.Proofs.Sha (wordCells wordCells_get wordCells_size rowIs_of wpList_alloc_to)
section
variable {P : Program} {w : World} {ops : Array Oper} {rest : List Oper} {o : Oper} {a : Act} {Q : Exit → Act → World → Prop}
/-- An operation that yields a value. -/
theorem wpList_val (hg : o.guard = none) (v : Value) (w' : World) (hr : (execOp a.eval o).run P w = .ok (.value v) w') (h : wpList P ops Q rest (a.put o.dst v) w') : wpList P ops Q (o :: rest) a w :=
  wpList_plain hg fun _ hK => by unfold Oper.wp; rw [hr]; exact hK _ _ h
end
/-- The cells of a cipher: the table, the keys, how many rounds. -/
def cCell (K : Nat → Nat) (n i : Nat) : Value := if i < 256 then .int .u8 (bx i : Nat) else if i < 316 then .int .u32 (K (i - 256) : Nat) else .int .i64 (n : Nat)
def Ciph (w : World) (g : Nat) (K : Nat → Nat) (n : Nat) : Prop := w.rowIs g 81 317 (cCell K n)
theorem Ciph.tab {w : World} {g : Nat} {K : Nat → Nat} {n : Nat} (h : Ciph w g K n) (i : Nat) (hi : i < 256) : w.cell? ⟨g, i, none⟩ = some (.int .u8 (bx i : Nat)) := by
  rw [World.rowIs.cell h (i := i) (by omega)]; unfold cCell; rw [if_pos hi]
theorem Ciph.key {w : World} {g : Nat} {K : Nat → Nat} {n : Nat} (h : Ciph w g K n) (i : Nat) (hi : i < 60) : w.cell? ⟨g, 256 + i, none⟩ = some (.int .u32 (K i : Nat)) := by
  rw [World.rowIs.cell h (i := 256 + i) (by omega)]; unfold cCell; rw [if_neg (by omega), if_pos (by omega), show 256 + i - 256 = i by omega]
theorem Ciph.rounds {w : World} {g : Nat} {K : Nat → Nat} {n : Nat} (h : Ciph w g K n) : w.cell? ⟨g, 316, none⟩ = some (.int .i64 (n : Nat)) := World.rowIs.cell h (i := 316) (by omega)
theorem Ciph.frozen {w : World} {g : Nat} {K : Nat → Nat} {n : Nat} (h : Ciph w g K n) (i : Nat) : w.frozen? ⟨g, i, none⟩ = false := World.rowIs.frozen h i
theorem Ciph.lt {w : World} {g : Nat} {K : Nat → Nat} {n : Nat} (h : Ciph w g K n) : g < w.heap.size := World.rowIs.lt h
theorem Ciph.below {w u : World} {g B : Nat} {K : Nat → Nat} {n : Nat} (h : Ciph w g K n) (hb : Below B w u) (hB : g < B) : Ciph u g K n := World.rowIs.of_block h (hb.block g hB)
theorem Ciph.on {w u : World} {g : Nat} {K : Nat → Nat} {n : Nat} (h : Ciph w g K n) (hb : Below w.heap.size w u) : Ciph u g K n := h.below hb h.lt
theorem Ciph.congr {w : World} {g : Nat} {K L : Nat → Nat} {n : Nat} (h : Ciph w g K n) (e : ∀ i, i < 60 → K i = L i) : Ciph w g L n :=
  World.rowIs.congr h fun i hi => by
    unfold cCell
    split
    · rfl
    · split
      · rw [e _ (by omega)]
      · rfl
theorem Ciph.set {w : World} {g : Nat} {K : Nat → Nat} {n : Nat} (h : Ciph w g K n) (j v : Nat) (hj : j < 60) : Ciph (w.setCell ⟨g, 256 + j, none⟩ (.int .u32 v)) g (fun i => if i = j then v else K i) n :=
  World.rowIs.congr (World.rowIs.set h (256 + j) (.int .u32 v)) fun i hi => by
    unfold cCell
    by_cases h1 : i < 256
    · rw [if_pos h1, if_pos h1, if_neg (by omega)]
    · rw [if_neg h1, if_neg h1]
      by_cases h2 : i < 316
      · rw [if_pos h2, if_pos h2]
        by_cases h3 : i = 256 + j
        · rw [if_pos h3]; simp only []; rw [if_pos (show i - 256 = j by omega)]
        · rw [if_neg h3]; simp only []; rw [if_neg (show ¬ i - 256 = j by omega)]
      · rw [if_neg h2, if_neg h2, if_neg (by omega)]
theorem Ciph.drewN {w : World} {g : Nat} {K : Nat → Nat} {n : Nat} (h : Ciph w g K n) (q : Nat) : Ciph (w.drewN q) g K n := h
theorem Ciph.drew {w : World} {g : Nat} {K : Nat → Nat} {n : Nat} (h : Ciph w g K n) : Ciph w.drew g K n := World.rowIs.drew h
/-- The table of 256 bytes as an array. -/
def boxA : Array Value := wordCells .u8 boxL
def Z256 : Array Value := wordCells .u8 (List.replicate 256 0)
theorem alloc256 (w : World) : (Instr.alloc 76 true (.tuple #[])).run Try.prog w = .ok (.pointer (some ⟨w.heap.size, 0, none⟩)) (w.alloc (.cells Z256 76)) := by kernel_rfl
set_option maxHeartbeats 1000000 in
set_option maxRecDepth 10000 in
theorem subst_any (w : World) : Calls Try.prog 44 #[] w fun e w' => e = .returned (.agg boxA) ∧ Below w.heap.size w w' := by
  go_enter Try.func44, Try.ntmps44
  go_upto_region 0 with (fail)
  apply wp_region_lit
  refine wpList_alloc_to rfl 76 rfl Z256 w.heap.size rfl alloc256 ?_
  go_upto_region 1 with (fail)
  apply wp_region_lit
  refine wpList_val rfl (.agg boxA) (w.alloc (.cells Z256 76)) (by kernel_rfl) ?_
  refine wpList_store_row rfl 76 _ _ rfl w.heap.size boxA (by kernel_rfl) (by kernel_rfl) 76 Z256 (heap_alloc_last w _) (by kernel_rfl) (by kernel_rfl) (by decide +kernel) ?_
  rw [World.setRow_alloc_new]
  simp only [Act.put, List.setIfInBounds_toArray, List.set_cons_zero, List.set_cons_succ]
  generalize hA : boxA = A
  go_wp2_with (fail)
  subst hA
  refine bodyPost_ret (v := .agg boxA) ?_ rfl ?_
  · exact results_cell_row (fn := Try.f44) Try.results44 _ _ w.heap.size 76 _ (0, 0) _ rfl (heap_alloc_last w _) Try.underlying76 rfl (by kernel_rfl)
  · exact ⟨rfl, (Below.refl _ _).alloc (Nat.le_refl _) _⟩
end Go.Proofs.Ae
