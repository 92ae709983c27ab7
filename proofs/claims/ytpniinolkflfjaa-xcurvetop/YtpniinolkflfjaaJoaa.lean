/-
  AES as plain functions on natural numbers, of no program.
-/
import Derived.WalkKit
import Derived.WalkSpells
import Derived.PlainAid
import Derived.Lib.Hide
import Derived.Laws.BitsAllLaws
import Derived.Handy
import Derived.Laws.Tables
import Derived.Deep.OwnRows
import Derived.RegionTactic
import Derived.Deep.MidRow
import Derived.BigCall
namespace Go.Proofs.Aes
open Go.RowKit
def boxL : List Nat := [99, 124, 119, 123, 242, 107, 111, 197, 48, 1, 103, 43, 254, 215, 171, 118, 202, 130, 201, 125, 250, 89, 71, 240, 173, 212, 162, 175, 156, 164, 114, 192, 183, 253, 147, 38, 54, 63, 247, 204, 52, 165, 229, 241, 113, 216, 49, 21, 4, 199, 35, 195, 24, 150, 5, 154, 7, 18, 128, 226, 235, 39, 178, 117, 9, 131, 44, 26, 27, 110, 90, 160, 82, 59, 214, 179, 41, 227, 47, 132, 83, 209, 0, 237, 32, 252, 177, 91, 106, 203, 190, 57, 74, 76, 88, 207, 208, 239, 170, 251, 67, 77, 51, 133, 69, 249, 2, 127, 80, 60, 159, 168, 81, 163, 64, 143, 146, 157, 56, 245, 188, 182, 218, 33, 16, 255, 243, 210, 205, 12, 19, 236, 95, 151, 68, 23, 196, 167, 126, 61, 100, 93, 25, 115, 96, 129, 79, 220, 34, 42, 144, 136, 70, 238, 184, 20, 222, 94, 11, 219, 224, 50, 58, 10, 73, 6, 36, 92, 194, 211, 172, 98, 145, 149, 228, 121, 231, 200, 55, 109, 141, 213, 78, 169, 108, 86, 244, 234, 101, 122, 174, 8, 186, 120, 37, 46, 28, 166, 180, 198, 232, 221, 116, 31, 75, 189, 139, 138, 112, 62, 181, 102, 72, 3, 246, 14, 97, 53, 87, 185, 134, 193, 29, 158, 225, 248, 152, 17, 105, 217, 142, 148, 155, 30, 135, 233, 206, 85, 40, 223, 140, 161, 137, 13, 191, 230, 66, 104, 65, 153, 45, 15, 176, 84, 187, 22]
def bx (x : Nat) : Nat := boxL.getD x 0
theorem lt256s {P : Nat → Bool} (h : (List.range 256).all P = true) (i : Nat) (hi : i < 256) : P i = true := List.all_eq_true.1 h i (List.mem_range.2 hi)
theorem bx_lt (x : Nat) (h : x < 256) : bx x < 256 := by
  have := lt256s (P := fun i => decide (bx i < 256)) (by decide +kernel) x h
  simpa using this
/-- A byte times 2. -/
def dbl (x : Nat) : Nat := if 127 < x then (x * 2 % 256) ^^^ 27 else x * 2
theorem xor8_lt {a b : Nat} (ha : a < 256) (hb : b < 256) : a ^^^ b < 256 := Nat.xor_lt_two_pow (n := 8) ha hb
theorem dbl_lt (x : Nat) (h : x < 256) : dbl x < 256 := by
  unfold dbl; split
  · exact xor8_lt (Nat.mod_lt _ (by decide)) (by decide)
  · omega
theorem u8_xor (x y : Nat) (hx : x < 256) (hy : y < 256) : bits .xor .u8 (x : Int) (y : Int) = ((x ^^^ y : Nat) : Int) := by
  have h : x ^^^ y < 2 ^ 8 := Nat.xor_lt_two_pow (by omega) (by omega)
  show IntKind.u8.wrap ((BitVec.ofInt 8 (x : Int) ^^^ BitVec.ofInt 8 (y : Int)).toNat : Int) = _
  rw [BitVec.toNat_xor, BitVec.toNat_ofInt, BitVec.toNat_ofInt, show ((x : Int) % ((2 ^ 8 : Nat) : Int)).toNat = x by omega, show ((y : Int) % ((2 ^ 8 : Nat) : Int)).toNat = y by omega]
  show ((x ^^^ y : Nat) : Int) % 256 = _
  omega
/-- The byte at a place (0 behind the end). -/
def byt (s : ByteArray) (k : Nat) : Nat := (s.data.toList.getD k 0).toNat
theorem byt_lt (s : ByteArray) (k : Nat) : byt s k < 256 := (s.data.toList.getD k 0).toNat_lt
theorem get_byt (s : ByteArray) (n : Nat) (h : n < s.size) : (s[n]'h).toNat = byt s n := by
  unfold byt
  have h' : n < s.data.toList.length := by simpa using h
  rw [List.getD_eq_getElem?_getD, List.getElem?_eq_getElem h']
  rfl
/-- One round's parts on sixteen bytes: substitute and shift, mix, add. -/
def subS (x : Nat → Nat) : Nat → Nat := fun i => bx (x ((i + 4 * (i % 4)) % 16))
def allC (y : Nat → Nat) (c : Nat) : Nat := y c ^^^ y (c + 1) ^^^ y (c + 2) ^^^ y (c + 3)
/-- The column of place i begins at 4 * (i / 4). -/
def mixS (y : Nat → Nat) : Nat → Nat := fun i => y i ^^^ allC y (4 * (i / 4)) ^^^ dbl (y i ^^^ y (4 * (i / 4) + (i % 4 + 1) % 4))
def addS (wk : Nat → Nat) (r : Nat) (y : Nat → Nat) : Nat → Nat := fun i => y i ^^^ wk (16 * r + i)
/-- The state behind r rounds of n. -/
def rndS (wk : Nat → Nat) (n : Nat) (x : Nat → Nat) : Nat → Nat → Nat
  | 0 => fun i => x i ^^^ wk i
  | r + 1 => addS wk (r + 1) (if r + 1 < n then mixS (subS (rndS wk n x r)) else subS (rndS wk n x r))
def ciphS (wk : Nat → Nat) (n : Nat) (s : ByteArray) : ByteArray := strOfNums ((List.range 16).map fun i => (rndS wk n (byt s) n i : Int))
theorem subS_lt {x : Nat → Nat} (h : ∀ i, x i < 256) (i : Nat) : subS x i < 256 := bx_lt _ (h _)
theorem mixS_lt {y : Nat → Nat} (h : ∀ i, y i < 256) (i : Nat) : mixS y i < 256 :=
  xor8_lt (xor8_lt (h _) (xor8_lt (xor8_lt (xor8_lt (h _) (h _)) (h _)) (h _))) (dbl_lt _ (xor8_lt (h _) (h _)))
theorem addS_lt {wk y : Nat → Nat} (hw : ∀ i, wk i < 256) (h : ∀ i, y i < 256) (r i : Nat) : addS wk r y i < 256 := xor8_lt (h _) (hw _)
theorem rndS_lt {wk x : Nat → Nat} (hw : ∀ i, wk i < 256) (hx : ∀ i, x i < 256) (n r i : Nat) : rndS wk n x r i < 256 := by
  induction r generalizing i with
  | zero => exact xor8_lt (hx _) (hw _)
  | succ r ih =>
    refine addS_lt hw (fun j => ?_) _ _
    split
    · exact mixS_lt (subS_lt ih) j
    · exact subS_lt ih j
theorem allC_lt {y : Nat → Nat} (h : ∀ i, y i < 256) (c : Nat) : allC y c < 256 := xor8_lt (xor8_lt (xor8_lt (h _) (h _)) (h _)) (h _)
end Go.Proofs.Aes
/-
  Laws for a walk over great literals and rows: a composite literal, a new variable, taken whole under a name.
-/
namespace Go.Proofs.Sha
open Go.RowKit
section
variable {P : Program} {w : World} {ops : Array Oper} {rest : List Oper} {o : Oper} {a : Act} {Q : Exit → Act → World → Prop}
/-- A composite literal whose cells are known by name. -/
theorem wpList_build_to (hg : o.guard = none) (t : TypeId) (parts : Array (Nat × Operand)) (ho : o.op = .build t parts) (cells : Array Value)
    (hf : P.built t (parts.map fun (i, x) => (i, a.eval x)).toList = some cells)
    (h : wpList P ops Q rest (a.put o.dst (.agg cells)) w) : wpList P ops Q (o :: rest) a w :=
  wpList_build hg t parts ho (by rw [hf]; rfl) (by rw [hf]; exact h)
/-- A new variable whose cells are known by name, at the block g. -/
theorem wpList_alloc_to (hg : o.guard = none) (t : TypeId) (ho : o.op = .alloc t) (cells : Array Value) (g : Nat) (hs : w.heap.size = g)
    (hr : ∀ w : World, (Instr.alloc t true (.tuple #[])).run P w = .ok (.pointer (some ⟨w.heap.size, 0, none⟩)) (w.alloc (.cells cells t)))
    (h : wpList P ops Q rest (a.put o.dst (.pointer (some ⟨g, 0, none⟩))) (w.alloc (.cells cells t))) : wpList P ops Q (o :: rest) a w := by
  subst hs
  refine wpList_plain hg fun _ hK => ?_
  unfold Oper.wp execOp
  simp only [ho, Sem.run_bind, hr, Result.andThen_ok]
  exact hK _ _ h
end
theorem rowIs_of (w : World) (c : Array Value) (t : TypeId) (n : Nat) (f : Nat → Value) (hn : c.size = n) (hc : ∀ i, i < n → c[i]? = some (f i)) : (w.alloc (.cells c t)).rowIs w.heap.size t n f := by
  subst hn; exact World.rowIs_alloc w c t f hc
theorem rowIs_setRow (w : World) (g : Nat) (old c : Array Value) (t : TypeId) (n : Nat) (f : Nat → Value) (hg : w.heap[g]? = some (.cells old t (0, 0))) (hn : c.size = n) (hc : ∀ i, i < n → c[i]? = some (f i)) : (w.setRow g c).rowIs g t n f :=
  ⟨c, setRow_heap w g old c t (0, 0) hg, hn, hc⟩
/-- A list of words as cells. -/
def wordCells (k : IntKind) (l : List Nat) : Array Value := (l.map fun n : Nat => Value.int k (n : Int)).toArray
theorem wordCells_size (k : IntKind) (l : List Nat) : (wordCells k l).size = l.length := by simp [wordCells]
theorem wordCells_get (k : IntKind) (l : List Nat) (i : Nat) (h : i < l.length) : (wordCells k l)[i]? = some (.int k (l.getD i 0 : Nat)) := by
  simp [wordCells, List.getD_eq_getElem?_getD, List.getElem?_eq_getElem h]
end Go.Proofs.Sha
/-
  Laws for a region that draws its order and holds loads and stores of whole arrays beside a call, operation by operation. Of no program.
-/
namespace Go.Proofs.Im
open Go.RowKit
section
variable {P : Program} {md : Region.Mode} {ops : Array Oper} {Q : Exit → Act → World → Prop} {fuel i : Nat} {listed : Array Bool} {a : Act} {w : World} {o : Oper} {rs : List Nat}
theorem ready_plain (ho : ops[i]? = some o) (hg : o.guard = none)
    (h : ∀ K' : Act → World → Prop, (∀ a w, wpAny P md ops Q fuel (listed.setIfInBounds i true) a w → K' a w) → Oper.wp P o a w K' Q)
    (hs : AllReady P md ops Q fuel listed a w rs) : AllReady P md ops Q fuel listed a w (i :: rs) :=
  AllReady.cons ho (fun K hK => by
    rw [if_pos (show Region.wanted o (yielded ops a.tmps) = true by simp [Region.wanted, hg])]
    exact h K hK) hs
theorem ready_load (ho : ops[i]? = some o) (hg : o.guard = none) (ty : TypeId) (x : Operand) (hop : o.op = .load ty x) (b off : Nat) (hx : a.eval x = .pointer (some ⟨b, off, none⟩)) (cs : List Value) (d : TypeDesc) (hc : w.rangeAt b off cs)
    (hu : P.underlying ty = some d) (hd : d.isRow = true) (hi : (P.info? ty).map (·.size) = some cs.length)
    (h : wpAny P md ops Q fuel (listed.setIfInBounds i true) (a.put o.dst (.agg cs.toArray)) w)
    (hs : AllReady P md ops Q fuel listed a w rs) : AllReady P md ops Q fuel listed a w (i :: rs) :=
  ready_plain ho hg (fun _ hK => wp_load_mid ty x hop b off hx cs d hc hu hd hi (hK _ _ h)) hs
theorem ready_store (ho : ops[i]? = some o) (hg : o.guard = none) (ty : TypeId) (x y : Operand) (hop : o.op = .store ty x y) (b off : Nat) (cells : Array Value) (hx : a.eval x = .pointer (some ⟨b, off, none⟩)) (hy : a.eval y = .agg cells)
    (ht : w.there b off cells.size) (hi : (P.info? ty).map (·.size) = some cells.size) (h1 : cells.all (·.oneCell') = true)
    (h : wpAny P md ops Q fuel (listed.setIfInBounds i true) (a.put o.dst undef) (w.setCells b off cells.toList))
    (hs : AllReady P md ops Q fuel listed a w rs) : AllReady P md ops Q fuel listed a w (i :: rs) :=
  ready_plain ho hg (fun _ hK => wp_store_mid ty x y hop b off cells hx hy ht hi h1 (hK _ _ h)) hs
theorem ready_call (ho : ops[i]? = some o) (hg : o.guard = none) (f : FuncId) (xs : Array Operand) (ats : Array TypeId) (hop : o.op = .call { callee := .value (.func f), args := xs, argTypes := ats })
    (hr : ∀ args w, (callFunc f args).run P w = .ok (.enter f args) w) (args : Array Value) (ha : xs.map a.eval = args)
    (h : Calls P f args w fun e u => ∃ v, e = .returned v ∧ wpAny P md ops Q fuel (listed.setIfInBounds i true) (a.put o.dst v) u)
    (hs : AllReady P md ops Q fuel listed a w rs) : AllReady P md ops Q fuel listed a w (i :: rs) :=
  ready_plain ho hg (fun K hK => by
    subst ha
    have e1 : execOp a.eval o = callFunc f (xs.map a.eval) := by
      have ef : a.eval (.func f) = .func (.func f) #[] #[] := rfl
      unfold execOp
      simp [hop, resolve, Deferred.ofValue, invoke, ef]
    unfold Oper.wp
    rw [e1, hr]
    refine h.mono ?_
    rintro e u ⟨v, rfl, hv⟩
    exact hK _ _ hv) hs
end
end Go.Proofs.Im
/-
  Two operations that only read, ready at once in a region that draws: one way for both orders. Of no program.
-/
namespace Go.Proofs.Im
open Go.RowKit
section
variable {P : Program} {md : Region.Mode} {ops : Array Oper} {Q : Exit → Act → World → Prop} {fuel i j : Nat} {listed : Array Bool} {a : Act} {w : World} {o oi oj : Oper} {rs : List Nat}
theorem ready_one (ho : ops[i]? = some o) (hg : o.guard = none) (v : Value) (w' : World) (hr : (execOp a.eval o).run P w = .ok (.value v) w')
    (h : wpAny P md ops Q fuel (listed.setIfInBounds i true) (a.put o.dst v) w')
    (hs : AllReady P md ops Q fuel listed a w rs) : AllReady P md ops Q fuel listed a w (i :: rs) :=
  ready_plain ho hg (fun _ hK => by unfold Oper.wp; rw [hr]; exact hK _ _ h) hs
theorem ready_call2 (di : Option Tmp) (ho : ops[i]? = some o) (hg : o.guard = none) (hdi : o.dst = di) (f : FuncId) (xs : Array Operand) (ats : Array TypeId) (hop : o.op = .call { callee := .value (.func f), args := xs, argTypes := ats })
    (hr : ∀ args w, (callFunc f args).run P w = .ok (.enter f args) w) (args : Array Value) (ha : xs.map a.eval = args)
    (h : Calls P f args w fun e u => ∃ v, e = .returned v ∧ wpAny P md ops Q fuel (listed.setIfInBounds i true) (a.put di v) u)
    (hs : AllReady P md ops Q fuel listed a w rs) : AllReady P md ops Q fuel listed a w (i :: rs) := by
  subst hdi
  exact ready_call ho hg f xs ats hop hr args ha h hs
theorem ready_one2 (di : Option Tmp) (ho : ops[i]? = some o) (hg : o.guard = none) (hdi : o.dst = di) (v : Value) (w' : World) (hr : (execOp a.eval o).run P w = .ok (.value v) w')
    (h : wpAny P md ops Q fuel (listed.setIfInBounds i true) (a.put di v) w')
    (hs : AllReady P md ops Q fuel listed a w rs) : AllReady P md ops Q fuel listed a w (i :: rs) := by
  subst hdi
  exact ready_one ho hg v w' hr h hs
theorem ready_skip (ho : ops[i]? = some o) (hg : o.guard = none) (hdi : o.dst = none) (w' : World) (hr : (execOp a.eval o).run P w = .ok .skip w')
    (h : wpAny P md ops Q fuel (listed.setIfInBounds i true) a w')
    (hs : AllReady P md ops Q fuel listed a w rs) : AllReady P md ops Q fuel listed a w (i :: rs) :=
  ready_plain ho hg (fun _ hK => by unfold Oper.wp; rw [hr]; exact hK _ _ (by rw [hdi]; exact h)) hs
theorem wpAny_two (di dj : Option Tmp) (v1 v2 : Value) (hr : Region.ready md ops listed = [i, j]) (h1 : Region.ready md ops (listed.setIfInBounds i true) = [j]) (h2 : Region.ready md ops (listed.setIfInBounds j true) = [i])
    (hi : ops[i]? = some oi) (hj : ops[j]? = some oj) (gi : oi.guard = none) (gj : oj.guard = none) (hdi : oi.dst = di) (hdj : oj.dst = dj)
    (hp : (a.put dj v2).put di v1 = (a.put di v1).put dj v2) (hl : (listed.setIfInBounds j true).setIfInBounds i true = (listed.setIfInBounds i true).setIfInBounds j true)
    (e1 : (execOp a.eval oi).run P w = .ok (.value v1) w) (e2 : (execOp (a.put di v1).eval oj).run P w = .ok (.value v2) w)
    (e3 : (execOp a.eval oj).run P w = .ok (.value v2) w) (e4 : (execOp (a.put dj v2).eval oi).run P w = .ok (.value v1) w)
    (h : wpAny P md ops Q fuel ((listed.setIfInBounds i true).setIfInBounds j true) ((a.put di v1).put dj v2) w) : wpAny P md ops Q (fuel + 2) listed a w := by
  subst hdi hdj
  refine wpAny_ready (rs := [i, j]) hr (by simp) ?_
  refine ready_one hi gi v1 w e1 ?_ (ready_one hj gj v2 w e3 ?_ AllReady.nil)
  · exact wpAny_ready (rs := [j]) h1 (by simp) (ready_one hj gj v2 w e2 h AllReady.nil)
  · refine wpAny_ready (rs := [i]) h2 (by simp) (ready_one hi gi v1 w e4 ?_ AllReady.nil)
    rw [hp, hl]; exact h
end
end Go.Proofs.Im
