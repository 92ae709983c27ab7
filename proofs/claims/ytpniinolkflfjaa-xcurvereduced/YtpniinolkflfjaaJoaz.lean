/-
  The document's own answer for layer 9: sums, differences, products of texts, at every input.
-/
import Derived.Test.YtpniinolkflfjaaJoax
import Derived.Test.YtpniinolkflfjaaJoay
import Derived.Test.YtpniinolkflfjaaJoat
import Derived.ChangeKeysEq
import Derived.Test.YtpniinolkflfjaaJoar
namespace Go.Proofs.Nu
open Go.RowKit
open Go.Proofs.Im (wpList_box_to words_heap words_one run_index_row)
open Go.Proofs.Sha (wordCells wordCells_get wordCells_size rowIs_of wpList_alloc_to wpList_build_to)
open Go.Proofs.Nt
/-- Both are numbers of the modulus; the result's text. -/
def c9Ok (z : Int) (a b : ByteArray) : Bool := numOk z a && numOk z b
def c9X (how z : Int) (a b : ByteArray) : Nat := if how = 0 then (bn a + bn b) % md z else if how = 1 then (bn a + md z - bn b) % md z else bn a * bn b % md z
def c9S (how z : Int) (a b : ByteArray) : ByteArray := bif c9Ok z a b then t32 (c9X how z a b) else ⟨#[]⟩
def c9E (z : Int) (a b : ByteArray) : Int := bif c9Ok z a b then 0 else 900
theorem numX_ok {z : Int} {s : ByteArray} (h : numOk z s = true) : numX z s = bn s ∧ bn s < md z := by
  obtain ⟨h1, h2, h3⟩ := (numOk_iff z s).1 h
  exact ⟨if_pos ⟨h1, h2⟩, h3⟩
end Go.Proofs.Nu
/-
  The document's own answer for layer 9: inverses of texts, at every input.
-/
namespace Go.Proofs.Nu
open Go.RowKit
open Go.Proofs.Im (wpList_box_to words_heap words_one run_index_row)
open Go.Proofs.Sha (wordCells wordCells_get wordCells_size rowIs_of wpList_alloc_to wpList_build_to)
open Go.Proofs.Nt
theorem items_eq (w : World) (D : Nat) (d e : Nat → Nat) : ∀ is : List Nat, (∀ i ∈ is, i < 8) → (Op.eqItems (D + 1) 36 1 (nmA d) (nmA e) is).run Try.prog w = .ok (is.all fun i => (d i : Int) == (e i : Int)) w
  | [], _ => rfl
  | i :: is, h => by
    have hi := h i (by simp)
    have ih := items_eq w D d e is fun j hj => h j (by simp [hj])
    have p1 : (part 36 (nmA d) (i * 1)).run Try.prog w = .ok (.int .u32 (d i : Nat)) w := run_part_plain w (by kernel_rfl) (by rw [Nat.mul_one]; exact nmA_get d i hi)
    have p2 : (part 36 (nmA e) (i * 1)).run Try.prog w = .ok (.int .u32 (e i : Nat)) w := run_part_plain w (by kernel_rfl) (by rw [Nat.mul_one]; exact nmA_get e i hi)
    simp only [Op.eqItems, Sem.run_bind, p1, p2, Result.andThen_ok, run_equalIn_int w D 36 .u32 .u32 _ _ Try.underlying36, List.all_cons]
    cases hb : ((d i : Int) == (e i : Int))
    · simp
    · simp only [Bool.not_true, Bool.false_eq_true, if_false, Bool.true_and]
      exact ih
theorem zero_iff {x : Nat} (hx : x < B8) : ((List.range 8).all fun i => ((lb x i : Nat) : Int) == ((lb 0 i : Nat) : Int)) = decide (x = 0) := by
  by_cases h : x = 0
  · subst h
    rw [decide_eq_true rfl, List.all_eq_true]
    intro i _
    exact beq_self_eq_true _
  · rw [decide_eq_false h, Bool.eq_false_iff]
    intro hc
    rw [List.all_eq_true] at hc
    refine h ?_
    rw [← nv8 hx, nv_congr (e := fun _ => 0) 8 fun i hi => ?_]
    · decide
    · have := hc i (List.mem_range.2 hi)
      rw [beq_iff_eq] at this
      have e0 : lb 0 i = 0 := by unfold lb; rw [Nat.zero_div]
      rw [e0] at this
      omega
theorem eql_zero (w : World) {x : Nat} (hx : x < B8) : (Op.equalIn 10000 50 (.agg (nmA (lb x))) (.agg (nmA (lb 0)))).run Try.prog w = .ok (decide (x = 0)) w := by
  obtain ⟨i, hi⟩ : ∃ i, Try.prog.info? 36 = some i := info_of_underlying Try.underlying36
  have h := run_equalIn_array (P := Try.prog) w 9999 (nmA (lb x)) (nmA (lb 0)) Try.underlying50 hi
  rw [show Try.prog.cellsOf 36 = 1 by kernel_rfl, items_eq w 9998 (lb x) (lb 0) (List.range 8) (fun i hi => List.mem_range.1 hi), zero_iff hx] at h
  exact h
/-- Is it a number that has an inverse? -/
def i9Ok (z : Int) (a : ByteArray) : Bool := numOk z a && !decide (bn a = 0)
def i9S (z : Int) (a : ByteArray) : ByteArray := bif i9Ok z a then t32 (bn a ^ (md z - 2) % md z) else ⟨#[]⟩
def i9E (z : Int) (a : ByteArray) : Int := bif i9Ok z a then 0 else 900
end Go.Proofs.Nu
/-
  The developers' numbers: whether a number is 0.
-/
namespace Go.Proofs.Nd
open Go.RowKit
open Go.Proofs.Im (wpList_box_to words_heap words_one run_index_row)
open Go.Proofs.Sha (wordCells wordCells_get wordCells_size rowIs_of wpList_alloc_to wpList_build_to)
open Go.Proofs.Nt
open Go.Proofs.Nu (nmL nmA nmV lt8 nmA_get nmA_congr nmA_one nmA_size results_row_slot B8 b8 nv8 nmA_lb nv_lt8 items_eq zero_iff)
theorem eql_zero (w : World) {x : Nat} (hx : x < B8) : (Op.equalIn 10000 38 (.agg (nmA (lb x))) (.agg (nmA (lb 0)))).run Try.prog w = .ok (decide (x = 0)) w := by
  obtain ⟨i, hi⟩ : ∃ i, Try.prog.info? 36 = some i := info_of_underlying Try.underlying36
  have h := run_equalIn_array (P := Try.prog) w 9999 (nmA (lb x)) (nmA (lb 0)) Try.underlying38 hi
  rw [show Try.prog.cellsOf 36 = 1 by kernel_rfl, items_eq w 9998 (lb x) (lb 0) (List.range 8) (fun i hi => List.mem_range.1 hi), zero_iff hx] at h
  exact h
set_option maxHeartbeats 1000000 in
theorem zero_any (x : Nat) (w : World) (hx : x < B8) : Calls Try.prog 16 #[nmV x] w fun e u => e = .returned (.bool (decide (x = 0))) ∧ Below w.heap.size w u := by
  have HE := Lib.hid (fun u => eql_zero u hx)
  generalize decide (x = 0) = R at HE ⊢
  go_enter Try.func16, Try.ntmps16
  go_upto_region 0 with (fail)
  apply wp_region_lit
  refine wpList_box_to rfl 38 _ rfl (nmA (lb x)) (by kernel_rfl) w.heap.size rfl ?_
  refine Lw.wpList_val rfl (.bool false) (w.alloc (.cells (nmA (lb x)) 38)) (by go_simp) ?_
  simp only [Act.put, List.setIfInBounds_toArray, List.set_cons_zero, List.set_cons_succ]
  have HX := Lib.hid (RP.new w (lb x))
  have HB : Hid (Below w.heap.size w (w.alloc (.cells (nmA (lb x)) 38))) := (Below.refl _ _).alloc (Nat.le_refl _) _
  generalize w.alloc (.cells (nmA (lb x)) 38) = w1 at HX HB ⊢
  generalize nmV x = Av
  have HN := Lib.hid HX.out.heap
  go_upto_region 1 with (fail)
  apply wp_region_lit
  refine wpList_load_row rfl 38 _ rfl w.heap.size (by kernel_rfl) 38 (nmA (lb x)) (0, 0) _ HN.out Try.underlying38 rfl (by kernel_rfl) ?_
  refine wpList_build_to rfl 38 _ rfl (nmA (lb 0)) (by kernel_rfl) ?_
  simp only [Act.put, List.setIfInBounds_toArray, List.set_cons_zero, List.set_cons_succ]
  have hq := HE.out w1
  generalize nmA (lb x) = A at hq ⊢
  generalize nmA (lb 0) = Z at hq ⊢
  go_wp2_with (fail)
  go_ret
  exact ⟨rfl, HB.out⟩
end Go.Proofs.Nd
