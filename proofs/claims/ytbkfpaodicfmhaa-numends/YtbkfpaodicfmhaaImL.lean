/-
  Laws for a walk over whole arrays by value: an array that is boxed, and one of its elements.
-/
import Derived.Test.YtbkfpaodicfmhaaShaL
import Derived.Deep.MidRow
namespace Go.Proofs.Im
open Go.RowKit
section
variable {P : Program} {w : World} {ops : Array Oper} {rest : List Oper} {o : Oper} {a : Act} {Q : Exit → Act → World → Prop}
/-- A new variable that begins with an array, at the block g. -/
theorem wpList_box_to (hg : o.guard = none) (t : TypeId) (x : Operand) (ho : o.op = .box t x) (cells : Array Value) (hx : a.eval x = .agg cells) (g : Nat) (hs : w.heap.size = g)
    (h : wpList P ops Q rest (a.put o.dst (.pointer (some ⟨g, 0, none⟩))) (w.alloc (.cells cells t))) : wpList P ops Q (o :: rest) a w := by
  subst hs
  refine wpList_plain hg fun _ hK => ?_
  have hr : (Instr.box t (.agg cells)).run P w = .ok (.pointer (some ⟨w.heap.size, 0, none⟩)) (w.alloc (.cells cells t)) := rfl
  unfold Oper.wp execOp
  simp only [ho, hx, Sem.run_bind, hr, Result.andThen_ok]
  exact hK _ _ h
end
/-- An array's element. -/
theorem run_index_row {P : Program} (w : World) (t e n : Nat) (cs : Array Value) (k : IntKind) (j : Nat) (v : Value) (hu : P.underlying t = some (.array n e)) (hi : (P.info? e).map (·.size) = some 1)
    (d : TypeDesc) (he : P.underlying e = some d) (hd : d.isRow = false) (hj : j < n) (hv : cs[j]? = some v) :
    (Instr.index t (.agg cs) (.int k (j : Int))).run P w = .ok v w := by
  cases hq : P.info? e with
  | none => simp [hq] at hi
  | some i =>
    have hs : i.size = 1 := by simpa [hq] using hi
    have hagg : (isAgg e).run P w = .ok false w := by
      unfold isAgg
      rw [Sem.run_bind, run_underlying he w]
      cases d <;> simp_all
    simp [Instr.index, asIntOf, Sem.run_bind, run_underlying hu w, hj, sizeOf, typeInfo, hq, hs, part, hagg, hv]
/-- A row's cells, known otherwise. -/
theorem rowIs_heap {w : World} {b : Nat} {t : TypeId} {n : Nat} {f : Nat → Value} (h : w.rowIs b t n f) (c : Array Value) (hn : c.size = n) (hc : ∀ i, i < n → c[i]? = some (f i)) : w.heap[b]? = some (.cells c t (0, 0)) := by
  obtain ⟨c', hb, hn', hc'⟩ := h
  rw [hb]
  have : c' = c := by
    apply Array.ext_getElem?
    intro i
    by_cases hi : i < n
    · rw [hc' i hi, hc i hi]
    · rw [Array.getElem?_eq_none (by omega), Array.getElem?_eq_none (by omega)]
  rw [this]
theorem words_heap {w : World} {b : Nat} {t : TypeId} {n : Nat} {k : IntKind} {f : Nat → Nat} (h : w.rowIs b t n (fun i => .int k (f i : Nat))) (l : List Nat) (hn : l.length = n) (hc : ∀ i, i < n → f i = l.getD i 0) : w.heap[b]? = some (.cells (Sha.wordCells k l) t (0, 0)) :=
  rowIs_heap h _ (by rw [Sha.wordCells_size, hn]) fun i hi => by rw [Sha.wordCells_get k l i (by omega), hc i hi]
theorem words_one (k : IntKind) (l : List Nat) : (Sha.wordCells k l).all (·.oneCell') = true :=
  all_oneCell_toArray fun v hv => by
    obtain ⟨n, _, rfl⟩ := List.mem_map.1 hv
    rfl
end Go.Proofs.Im
