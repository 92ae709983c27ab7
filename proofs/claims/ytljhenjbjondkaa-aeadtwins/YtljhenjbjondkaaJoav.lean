/-
  Contracts of the developers' aes: words, turns, doubled words, substitutes.
-/
import Derived.Test.YtljhenjbjondkaaProg
import Derived.Test.YtljhenjbjondkaaJoau
import Derived.Test.YtljhenjbjondkaaJoaa
import Derived.Test.YtljhenjbjondkaaJoac
import Derived.Deep.WholeRow
import Derived.Deep.OwnRows
import Derived.BigQuiet
import Derived.Deep.QuietTactic
import Derived.Deep.DeepCutAuto
import Derived.StillTailTactics
import Derived.WalkSmall
import Derived.Laws.Tables
namespace Go.Proofs.Ae
open Go.RowKit
open Go.Proofs.Aes
open Go.Proofs.Sha (wordCells wordCells_get wordCells_size rowIs_of wpList_alloc_to)
theorem retI {k : IntKind} {a b : Int} (h : a = b) : Ending.returned (.int k a) = .returned (.int k b) := by rw [h]
theorem rotl_8 (x : Nat) (w : World) (hx : x < 4294967296) :
    Calls Try.prog 66 #[.int .u32 x, .int .i64 8] w fun e w' => e = .returned (.int .u32 (((x * 256 % 4294967296) ||| (x / 16777216) : Nat) : Int)) ∧ w' = w := by
  have hb : bits .and .u64 8 31 = 8 := by decide
  go_enter Try.func66, Try.ntmps66
  go_wp2
  go_ret
  refine ⟨retI ?_, rfl⟩
  have h := u32_or_nat (x * 256 % 4294967296) (x / 16777216) (by omega) (by omega)
  rw [show ((x / 16777216 : Nat) : Int) = (x : Int) / 16777216 by omega, show ((x * 256 % 4294967296 : Nat) : Int) = (x : Int) * 256 % 4294967296 by omega] at h
  exact h
theorem rotl_16 (x : Nat) (w : World) (hx : x < 4294967296) :
    Calls Try.prog 66 #[.int .u32 x, .int .i64 16] w fun e w' => e = .returned (.int .u32 (((x * 65536 % 4294967296) ||| (x / 65536) : Nat) : Int)) ∧ w' = w := by
  have hb : bits .and .u64 16 31 = 16 := by decide
  go_enter Try.func66, Try.ntmps66
  go_wp2
  go_ret
  refine ⟨retI ?_, rfl⟩
  have h := u32_or_nat (x * 65536 % 4294967296) (x / 65536) (by omega) (by omega)
  rw [show ((x / 65536 : Nat) : Int) = (x : Int) / 65536 by omega, show ((x * 65536 % 4294967296 : Nat) : Int) = (x : Int) * 65536 % 4294967296 by omega] at h
  exact h
theorem rotl_24 (x : Nat) (w : World) (hx : x < 4294967296) :
    Calls Try.prog 66 #[.int .u32 x, .int .i64 24] w fun e w' => e = .returned (.int .u32 (((x * 16777216 % 4294967296) ||| (x / 256) : Nat) : Int)) ∧ w' = w := by
  have hb : bits .and .u64 24 31 = 24 := by decide
  go_enter Try.func66, Try.ntmps66
  go_wp2
  go_ret
  refine ⟨retI ?_, rfl⟩
  have h := u32_or_nat (x * 16777216 % 4294967296) (x / 256) (by omega) (by omega)
  rw [show ((x / 256 : Nat) : Int) = (x : Int) / 256 by omega, show ((x * 16777216 % 4294967296 : Nat) : Int) = (x : Int) * 16777216 % 4294967296 by omega] at h
  exact h
/-- Each of a word's bytes doubled, as words tell it. -/
def dblN (x : Nat) : Nat := ((x &&& 2139062143) * 2 % 4294967296) ^^^ ((x / 128 &&& 16843009) * 27 % 4294967296)
theorem dblN_lt (x : Nat) : dblN x < 4294967296 := Nat.xor_lt_two_pow (n := 32) (Nat.mod_lt _ (by decide)) (Nat.mod_lt _ (by decide))
theorem doubled_any (x : Nat) (w : World) (hx : x < 4294967296) :
    Calls Try.prog 68 #[.int .u32 x] w fun e w' => e = .returned (.int .u32 (dblN x : Nat)) ∧ w' = w := by
  have l1 : x &&& 2139062143 < 4294967296 := Nat.and_lt_two_pow (n := 32) _ (by decide)
  have l2 : x / 128 &&& 16843009 < 4294967296 := Nat.and_lt_two_pow (n := 32) _ (by decide)
  have h1 : bits .and .u32 (x : Int) 2139062143 = ((x &&& 2139062143 : Nat) : Int) := u32_and_nat x 2139062143 hx (by decide)
  have h2 : bits .and .u32 ((x : Int) / 128) 16843009 = ((x / 128 &&& 16843009 : Nat) : Int) := u32_and_nat (x / 128) 16843009 (by omega) (by decide)
  have h3 := u32_xor_nat ((x &&& 2139062143) * 2 % 4294967296) ((x / 128 &&& 16843009) * 27 % 4294967296) (Nat.mod_lt _ (by decide)) (Nat.mod_lt _ (by decide))
  have HD : Hid (((x &&& 2139062143) * 2 % 4294967296) ^^^ ((x / 128 &&& 16843009) * 27 % 4294967296) = dblN x) := rfl
  generalize x &&& 2139062143 = p at *
  generalize x / 128 &&& 16843009 = q at *
  have h4 : ((p * 2 % 4294967296 : Nat) : Int) = (p : Int) * 2 % 4294967296 := by omega
  have h5 : ((q * 27 % 4294967296 : Nat) : Int) = (q : Int) * 27 % 4294967296 := by omega
  rw [h4, h5, HD.out] at h3
  clear h4 h5
  have H3 := Lib.hid h3
  clear h3
  go_enter Try.func68, Try.ntmps68
  go_wp2
  go_ret
  exact ⟨retI H3.out, rfl⟩
set_option maxHeartbeats 1000000 in
theorem word_any (s : ByteArray) (i : Nat) (w : World) (hi : 4 * i + 4 ≤ s.size) (hs : s.size ≤ 1000) :
    Calls Try.prog 65 #[.string s, .int .i64 i] w fun e w' => e = .returned (.int .u32 (wd (byt s) i : Nat)) ∧ ∃ n, w' = w.drewN n := by
  have l0 : 4 * (i : Int) < (s.size : Int) := by omega
  have l1 : 4 * (i : Int) + 1 < (s.size : Int) := by omega
  have l2 : 4 * (i : Int) + 2 < (s.size : Int) := by omega
  have l3 : 4 * (i : Int) + 3 < (s.size : Int) := by omega
  have p0 : (0 : Int) ≤ 4 * (i : Int) := by omega
  have p1 : (0 : Int) ≤ 4 * (i : Int) + 1 := by omega
  have p2 : (0 : Int) ≤ 4 * (i : Int) + 2 := by omega
  have p3 : (0 : Int) ≤ 4 * (i : Int) + 3 := by omega
  have t0 : (4 * (i : Int)).toNat = 4 * i := by omega
  have t1 : (4 * (i : Int) + 1).toNat = 4 * i + 1 := by omega
  have t2 : (4 * (i : Int) + 2).toNat = 4 * i + 2 := by omega
  have t3 : (4 * (i : Int) + 3).toNat = 4 * i + 3 := by omega
  have w0 : IntKind.i64.wrap (4 * (i : Int)) = 4 * (i : Int) := IntWalk.i64_in _ (by omega)
  have w1 : IntKind.i64.wrap (4 * (i : Int) + 1) = 4 * (i : Int) + 1 := IntWalk.i64_in _ (by omega)
  have w2 : IntKind.i64.wrap (4 * (i : Int) + 2) = 4 * (i : Int) + 2 := IntWalk.i64_in _ (by omega)
  have w3 : IntKind.i64.wrap (4 * (i : Int) + 3) = 4 * (i : Int) + 3 := IntWalk.i64_in _ (by omega)
  have v0 : ∀ h : 4 * i < s.size, (s[4 * i]'h).toNat = byt s (4 * i) := fun h => get_byt s _ h
  have v1 : ∀ h : 4 * i + 1 < s.size, (s[4 * i + 1]'h).toNat = byt s (4 * i + 1) := fun h => get_byt s _ h
  have v2 : ∀ h : 4 * i + 2 < s.size, (s[4 * i + 2]'h).toNat = byt s (4 * i + 2) := fun h => get_byt s _ h
  have v3 : ∀ h : 4 * i + 3 < s.size, (s[4 * i + 3]'h).toNat = byt s (4 * i + 3) := fun h => get_byt s _ h
  have b0 := byt_lt s (4 * i)
  have b1 := byt_lt s (4 * i + 1)
  have b2 := byt_lt s (4 * i + 2)
  have b3 := byt_lt s (4 * i + 3)
  have HJ := Lib.hid (join_bits _ _ _ _ b0 b1 b2 b3)
  go_enter Try.func65, Try.ntmps65
  go_wp2
  go_quiet (fail)
  go_wp2
  go_ret
  exact ⟨retI HJ.out, nq, rfl⟩
end Go.Proofs.Ae
/-
  The developers' aes: a key's cipher in memory, its table, a column's substitutes.
-/
namespace Go.Proofs.Ae
open Go.RowKit
open Go.Proofs.Aes
open Go.Proofs.Sha (wordCells wordCells_get wordCells_size rowIs_of wpList_alloc_to)
section
variable {P : Program} {w : World} {ops : Array Oper} {rest : List Oper} {o : Oper} {a : Act} {Q : Exit → Act → World → Prop}
/-- An operation that yields a value. -/
theorem wpList_val (hg : o.guard = none) (v : Value) (w' : World) (hr : (execOp a.eval o).run P w = .ok (.value v) w') (h : wpList P ops Q rest (a.put o.dst v) w') : wpList P ops Q (o :: rest) a w :=
  wpList_plain hg fun _ hK => by unfold Oper.wp; rw [hr]; exact hK _ _ h
end
/-- The cells of a cipher: the table, the keys, how many rounds. -/
def cCell (K : Nat → Nat) (n i : Nat) : Value := if i < 256 then .int .u8 (bx i : Nat) else if i < 316 then .int .u32 (K (i - 256) : Nat) else .int .i64 (n : Nat)
def Ciph (w : World) (g : Nat) (K : Nat → Nat) (n : Nat) : Prop := w.rowIs g 97 317 (cCell K n)
theorem Ciph.tab {w : World} {g : Nat} {K : Nat → Nat} {n : Nat} (h : Ciph w g K n) (i : Nat) (hi : i < 256) : w.cell? ⟨g, i, none⟩ = some (.int .u8 (bx i : Nat)) := by
  rw [World.rowIs.cell h (i := i) (by omega)]; unfold cCell; rw [if_pos hi]
theorem Ciph.key {w : World} {g : Nat} {K : Nat → Nat} {n : Nat} (h : Ciph w g K n) (i : Nat) (hi : i < 60) : w.cell? ⟨g, 256 + i, none⟩ = some (.int .u32 (K i : Nat)) := by
  rw [World.rowIs.cell h (i := 256 + i) (by omega)]; unfold cCell; rw [if_neg (by omega), if_pos (by omega), show 256 + i - 256 = i by omega]
theorem Ciph.rounds {w : World} {g : Nat} {K : Nat → Nat} {n : Nat} (h : Ciph w g K n) : w.cell? ⟨g, 316, none⟩ = some (.int .i64 (n : Nat)) := World.rowIs.cell h (i := 316) (by omega)
theorem Ciph.frozen {w : World} {g : Nat} {K : Nat → Nat} {n : Nat} (h : Ciph w g K n) (i : Nat) : w.frozen? ⟨g, i, none⟩ = false := World.rowIs.frozen h i
theorem Ciph.lt {w : World} {g : Nat} {K : Nat → Nat} {n : Nat} (h : Ciph w g K n) : g < w.heap.size := World.rowIs.lt h
theorem Ciph.below {w u : World} {g B : Nat} {K : Nat → Nat} {n : Nat} (h : Ciph w g K n) (hb : Below B w u) (hB : g < B) : Ciph u g K n := World.rowIs.of_block h (hb.block g hB)
theorem Ciph.on {w u : World} {g : Nat} {K : Nat → Nat} {n : Nat} (h : Ciph w g K n) (hb : Below w.heap.size w u) : Ciph u g K n := h.below hb h.lt
theorem Ciph.congr {w : World} {g : Nat} {K L : Nat → Nat} {n : Nat} (h : Ciph w g K n) (e : ∀ i, i < 60 → K i = L i) : Ciph w g L n :=
  World.rowIs.congr h fun i hi => by
    unfold cCell
    split
    · rfl
    · split
      · rw [e _ (by omega)]
      · rfl
theorem Ciph.set {w : World} {g : Nat} {K : Nat → Nat} {n : Nat} (h : Ciph w g K n) (j v : Nat) (hj : j < 60) : Ciph (w.setCell ⟨g, 256 + j, none⟩ (.int .u32 v)) g (fun i => if i = j then v else K i) n :=
  World.rowIs.congr (World.rowIs.set h (256 + j) (.int .u32 v)) fun i hi => by
    unfold cCell
    by_cases h1 : i < 256
    · rw [if_pos h1, if_pos h1, if_neg (by omega)]
    · rw [if_neg h1, if_neg h1]
      by_cases h2 : i < 316
      · rw [if_pos h2, if_pos h2]
        by_cases h3 : i = 256 + j
        · rw [if_pos h3]; simp only []; rw [if_pos (show i - 256 = j by omega)]
        · rw [if_neg h3]; simp only []; rw [if_neg (show ¬ i - 256 = j by omega)]
      · rw [if_neg h2, if_neg h2, if_neg (by omega)]
theorem Ciph.drewN {w : World} {g : Nat} {K : Nat → Nat} {n : Nat} (h : Ciph w g K n) (q : Nat) : Ciph (w.drewN q) g K n := h
theorem Ciph.drew {w : World} {g : Nat} {K : Nat → Nat} {n : Nat} (h : Ciph w g K n) : Ciph w.drew g K n := World.rowIs.drew h
/-- The table of 256 bytes as an array. -/
def boxA : Array Value := wordCells .u8 boxL
def Z256 : Array Value := wordCells .u8 (List.replicate 256 0)
theorem alloc256 (w : World) : (Instr.alloc 93 true (.tuple #[])).run Try.prog w = .ok (.pointer (some ⟨w.heap.size, 0, none⟩)) (w.alloc (.cells Z256 93)) := by kernel_rfl
set_option maxHeartbeats 1000000 in
set_option maxRecDepth 10000 in
theorem subst_any (w : World) : Calls Try.prog 64 #[] w fun e w' => e = .returned (.agg boxA) ∧ Below w.heap.size w w' := by
  go_enter Try.func64, Try.ntmps64
  go_upto_region 0 with (fail)
  apply wp_region_lit
  refine wpList_alloc_to rfl 93 rfl Z256 w.heap.size rfl alloc256 ?_
  go_upto_region 1 with (fail)
  apply wp_region_lit
  refine wpList_val rfl (.agg boxA) (w.alloc (.cells Z256 93)) (by kernel_rfl) ?_
  refine wpList_store_row rfl 93 _ _ rfl w.heap.size boxA (by kernel_rfl) (by kernel_rfl) 93 Z256 (heap_alloc_last w _) (by kernel_rfl) (by kernel_rfl) (by decide +kernel) ?_
  rw [World.setRow_alloc_new]
  simp only [Act.put, List.setIfInBounds_toArray, List.set_cons_zero, List.set_cons_succ]
  generalize hA : boxA = A
  go_wp2_with (fail)
  subst hA
  refine bodyPost_ret (v := .agg boxA) ?_ rfl ?_
  · exact results_cell_row (fn := Try.f64) Try.results64 _ _ w.heap.size 93 _ (0, 0) _ rfl (heap_alloc_last w _) Try.underlying93 rfl (by kernel_rfl)
  · exact ⟨rfl, (Below.refl _ _).alloc (Nat.le_refl _) _⟩
end Go.Proofs.Ae
/-
  The developers' aes: a column's substitutes.
-/
namespace Go.Proofs.Ae
open Go.RowKit
open Go.Proofs.Aes
set_option maxHeartbeats 2000000 in
theorem column_any (x y z t : Nat) (g : Nat) (K : Nat → Nat) (n : Nat) (w : World) (h : Ciph w g K n) (_hx : x < 4294967296) (_hy : y < 4294967296) (_hz : z < 4294967296) (_ht : t < 4294967296) :
    Calls Try.prog 67 #[.pointer (some ⟨g, 0, none⟩), .int .u32 x, .int .u32 y, .int .u32 z, .int .u32 t] w fun e w' => e = .returned (.int .u32 (colN x y z t : Nat)) ∧ ∃ n, w' = w.drewN n := by
  have l0 := Nat.mod_lt (x / 16777216) (show 256 > 0 by decide)
  have l1 := Nat.mod_lt (y / 65536) (show 256 > 0 by decide)
  have l2 := Nat.mod_lt (z / 256) (show 256 > 0 by decide)
  have l3 := Nat.mod_lt t (show 256 > 0 by decide)
  have e0 : IntKind.u8.wrap ((x : Int) / 16777216) = ((x / 16777216 % 256 : Nat) : Int) := by show _ % 256 = _; omega
  have e1 : IntKind.u8.wrap ((y : Int) / 65536) = ((y / 65536 % 256 : Nat) : Int) := by show _ % 256 = _; omega
  have e2 : IntKind.u8.wrap ((z : Int) / 256) = ((z / 256 % 256 : Nat) : Int) := by show _ % 256 = _; omega
  have e3 : IntKind.u8.wrap (t : Int) = ((t % 256 : Nat) : Int) := by show _ % 256 = _; omega
  have HC : Hid (colN x y z t = pk (bx (x / 16777216 % 256)) (bx (y / 65536 % 256)) (bx (z / 256 % 256)) (bx (t % 256))) := rfl
  generalize x / 16777216 % 256 = a at *
  generalize y / 65536 % 256 = b at *
  generalize z / 256 % 256 = c at *
  generalize t % 256 = d at *
  have c0 := h.tab a l0
  have c1 := h.tab b l1
  have c2 := h.tab c l2
  have c3 := h.tab d l3
  have b0 := bx_lt a l0
  have b1 := bx_lt b l1
  have b2 := bx_lt c l2
  have b3 := bx_lt d l3
  rw [HC.out]
  generalize bx a = p at *
  generalize bx b = q at *
  generalize bx c = r at *
  generalize bx d = s at *
  have HJ := Lib.hid (join_bits p q r s b0 b1 b2 b3)
  clear h HC
  go_enter Try.func67, Try.ntmps67
  go_wp2
  go_quiet (fail)
  go_wp2
  go_ret
  exact ⟨retI HJ.out, nq, rfl⟩
end Go.Proofs.Ae
