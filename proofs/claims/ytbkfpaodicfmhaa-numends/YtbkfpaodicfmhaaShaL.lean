/-
  Laws for a walk over great literals and rows: a composite literal, a new variable, taken whole under a name.
-/
import Derived.WalkKit
import Derived.Handy
import Derived.Laws.Tables
import Derived.Deep.OwnRows
namespace Go.Proofs.Sha
open Go.RowKit
section
variable {P : Program} {w : World} {ops : Array Oper} {rest : List Oper} {o : Oper} {a : Act} {Q : Exit → Act → World → Prop}
/-- A composite literal whose cells are known by name. -/
theorem wpList_build_to (hg : o.guard = none) (t : TypeId) (parts : Array (Nat × Operand)) (ho : o.op = .build t parts) (cells : Array Value)
    (hf : P.built t (parts.map fun (i, x) => (i, a.eval x)).toList = some cells)
    (h : wpList P ops Q rest (a.put o.dst (.agg cells)) w) : wpList P ops Q (o :: rest) a w :=
  wpList_build hg t parts ho (by rw [hf]; rfl) (by rw [hf]; exact h)
/-- A new variable whose cells are known by name, at the block g. -/
theorem wpList_alloc_to (hg : o.guard = none) (t : TypeId) (ho : o.op = .alloc t) (cells : Array Value) (g : Nat) (hs : w.heap.size = g)
    (hr : ∀ w : World, (Instr.alloc t true (.tuple #[])).run P w = .ok (.pointer (some ⟨w.heap.size, 0, none⟩)) (w.alloc (.cells cells t)))
    (h : wpList P ops Q rest (a.put o.dst (.pointer (some ⟨g, 0, none⟩))) (w.alloc (.cells cells t))) : wpList P ops Q (o :: rest) a w := by
  subst hs
  refine wpList_plain hg fun _ hK => ?_
  unfold Oper.wp execOp
  simp only [ho, Sem.run_bind, hr, Result.andThen_ok]
  exact hK _ _ h
end
theorem rowIs_of (w : World) (c : Array Value) (t : TypeId) (n : Nat) (f : Nat → Value) (hn : c.size = n) (hc : ∀ i, i < n → c[i]? = some (f i)) : (w.alloc (.cells c t)).rowIs w.heap.size t n f := by
  subst hn; exact World.rowIs_alloc w c t f hc
theorem rowIs_setRow (w : World) (g : Nat) (old c : Array Value) (t : TypeId) (n : Nat) (f : Nat → Value) (hg : w.heap[g]? = some (.cells old t (0, 0))) (hn : c.size = n) (hc : ∀ i, i < n → c[i]? = some (f i)) : (w.setRow g c).rowIs g t n f :=
  ⟨c, setRow_heap w g old c t (0, 0) hg, hn, hc⟩
/-- A list of words as cells. -/
def wordCells (k : IntKind) (l : List Nat) : Array Value := (l.map fun n : Nat => Value.int k (n : Int)).toArray
theorem wordCells_size (k : IntKind) (l : List Nat) : (wordCells k l).size = l.length := by simp [wordCells]
theorem wordCells_get (k : IntKind) (l : List Nat) (i : Nat) (h : i < l.length) : (wordCells k l)[i]? = some (.int k (l.getD i 0 : Nat)) := by
  simp [wordCells, List.getD_eq_getElem?_getD, List.getElem?_eq_getElem h]
end Go.Proofs.Sha
