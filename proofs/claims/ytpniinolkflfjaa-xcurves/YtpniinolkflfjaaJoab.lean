/-
  Small forms for the walk of any law: numbers of errors, masks, rows of noughts, texts out of rows of bytes, ways that meet.
-/
import Derived.Test.YtpniinolkflfjaaProg
import Derived.Test.YtpniinolkflfjaaJoaa
import Derived.Laws.BytesArg
import Derived.Laws.MakeOwn
import Derived.OwnWalk
import Derived.Handy
import Derived.Deep.Draws
import Derived.Deep.MidRow
namespace Go.Proofs.Lw
open Go.RowKit
open Go.Proofs.Aes (byt byt_lt get_byt)
open Go.Proofs.Sha (rowIs_of)
theorem num_same (z : Int) (w : World) : Calls Try.prog 11 #[.int .i64 z] w fun e w' => e = .returned (.int .i64 z) ∧ w' = w := by
  go_enter Try.func11, Try.ntmps11
  go_wp2
  go_ret
  exact ⟨rfl, rfl⟩
section
variable {P : Program} {w : World} {ops : Array Oper} {rest : List Oper} {o : Oper} {a : Act} {Q : Exit → Act → World → Prop}
/-- An operation that yields a value. -/
theorem wpList_val (hg : o.guard = none) (v : Value) (w' : World) (hr : (execOp a.eval o).run P w = .ok (.value v) w') (h : wpList P ops Q rest (a.put o.dst v) w') : wpList P ops Q (o :: rest) a w :=
  wpList_plain hg fun _ hK => by unfold Oper.wp; rw [hr]; exact hK _ _ h
/-- A call of a function that the text names, its destination written out. -/
theorem wpList_callTo (d : Option Tmp) (hg : o.guard = none) (hd : o.dst = d) (f : FuncId) (xs : Array Operand) (ats : Array TypeId) (hop : o.op = .call { callee := .value (.func f), args := xs, argTypes := ats })
    (hr : ∀ args w, (callFunc f args).run P w = .ok (.enter f args) w) (args : Array Value) (ha : xs.map a.eval = args)
    (h : Calls P f args w fun e u => ∃ v, e = .returned v ∧ wpList P ops Q rest (a.put d v) u) : wpList P ops Q (o :: rest) a w :=
  wpList_plain hg fun K hK => by
    subst ha hd
    have e1 : execOp a.eval o = callFunc f (xs.map a.eval) := by
      have ef : a.eval (.func f) = .func (.func f) #[] #[] := rfl
      unfold execOp
      simp [hop, resolve, Deferred.ofValue, invoke, ef]
    unfold Oper.wp
    rw [e1, hr]
    refine h.mono ?_
    rintro e u ⟨v, rfl, hv⟩
    exact hK _ _ hv
end
theorem go_on {w u v : World} (h : Below w.heap.size w u) (hb : Below u.heap.size u v) : Below w.heap.size w v := h.trans (hb.mono h.size)
theorem meas (K j : Nat) (h : j < K) : K - (intOf (.int .i64 ((j : Int) + 1))).toNat < K - (intOf (.int .i64 (j : Int))).toNat := by
  show K - ((j : Int) + 1).toNat < K - (j : Int).toNat
  omega
theorem below_drewN {B : Nat} {w u : World} (h : Below B w u) (q : Nat) : Below B w (u.drewN q) := ⟨h.os, h.tape, h.output, h.size, h.block⟩
theorem and_of (z : Int) (m : Nat) (hm : m < 9223372036854775808) : bits .and .i64 z (m : Int) = (((z % 18446744073709551616).toNat &&& m : Nat) : Int) := by
  have hx : (z % 18446744073709551616).toNat &&& m ≤ m := Nat.and_le_right
  show IntKind.i64.wrap ((BitVec.ofInt 64 z &&& BitVec.ofInt 64 (m : Int)).toNat : Int) = _
  rw [BitVec.toNat_and, ofInt_u64 m (by omega), BitVec.toNat_ofInt, show ((2 ^ 64 : Nat) : Int) = 18446744073709551616 from rfl]
  exact IntWalk.i64_in _ (by omega)
theorem maskN127 (z : Int) : ∃ n : Nat, n ≤ 127 ∧ bits .and .i64 z 127 = (n : Int) := ⟨_, Nat.and_le_right, and_of z 127 (by omega)⟩
theorem maskN63 (z : Int) : ∃ n : Nat, n ≤ 63 ∧ bits .and .i64 z 63 = (n : Int) := ⟨_, Nat.and_le_right, and_of z 63 (by omega)⟩
theorem maskN31 (z : Int) : ∃ n : Nat, n ≤ 31 ∧ bits .and .i64 z 31 = (n : Int) := ⟨_, Nat.and_le_right, and_of z 31 (by omega)⟩
theorem maskN15 (z : Int) : ∃ n : Nat, n ≤ 15 ∧ bits .and .i64 z 15 = (n : Int) := ⟨_, Nat.and_le_right, and_of z 15 (by omega)⟩
theorem maskN3 (z : Int) : ∃ n : Nat, n ≤ 3 ∧ bits .and .i64 z 3 = (n : Int) := ⟨_, Nat.and_le_right, and_of z 3 (by omega)⟩
theorem zeros (m : Nat) (hm : m ≤ 1000000) : ∃ (M : Array Value), M.size = m ∧ (∀ i, i < m → M[i]? = some (.int .u8 0)) ∧
    (∀ W : World, (Instr.makeSlice 32 (.int .i64 (m : Int)) (.int .i64 (m : Int))).run Try.prog W = .ok (.slice (some ⟨W.heap.size, 0, none⟩) m m) (W.alloc (.cells M 5))) := by
  obtain ⟨i0, hi, hz0, hz1, hz2⟩ := info_parts (P := Try.prog) (e := 5) (z := .int .u8 0) (size := 1) (bytes := 1) (by kernel_rfl)
  refine ⟨madeCells (Value.int .u8 0).cells (m * i0.size), by rw [size_madeCells, hz1]; simp, fun i hi' => ?_, fun W => ?_⟩
  · rw [hz1]
    simp [madeCells, hi', Value.cells, Nat.mod_one]
  · have h := run_make (P := Try.prog) W 32 5 i0 (.int .u8 0) Try.underlying32 hi hz0 .i64 .i64 (m : Int) (m : Int) (by omega) (by omega) (by rw [hz2]; omega) (by omega)
    rw [Int.toNat_natCast] at h
    exact h
/-- A row of bytes in memory. -/
def RowB (wx : World) (g m : Nat) (X : Nat → Nat) : Prop := wx.rowIs g 5 m (fun i => .int .u8 (X i : Nat))
theorem RowB.set {wx : World} {g m : Nat} {X : Nat → Nat} (r : RowB wx g m X) (j x : Nat) : RowB (wx.setCell ⟨g, j, none⟩ (.int .u8 x)) g m (fun i => if i = j then x else X i) :=
  World.rowIs.congr (World.rowIs.set r j (.int .u8 x)) fun i _ => by simp only []; split <;> rfl
theorem RowB.congr {wx : World} {g m : Nat} {X Y : Nat → Nat} (r : RowB wx g m X) (h : ∀ i, i < m → X i = Y i) : RowB wx g m Y := World.rowIs.congr r fun i hi => by rw [h i hi]
theorem RowB.drew {wx : World} {g m : Nat} {X : Nat → Nat} (r : RowB wx g m X) : RowB wx.drew g m X := World.rowIs.drew r
theorem RowB.drewN {wx : World} {g m : Nat} {X : Nat → Nat} (r : RowB wx g m X) (q : Nat) : RowB (wx.drewN q) g m X := r
theorem RowB.on {u v : World} {g m : Nat} {X : Nat → Nat} (r : RowB u g m X) (hb : Below u.heap.size u v) : RowB v g m X := World.rowIs.of_block r (hb.block g (World.rowIs.lt r))
theorem rowB_new (w : World) (M : Array Value) (m : Nat) (hs : M.size = m) (hM : ∀ i, i < m → M[i]? = some (.int .u8 0)) : RowB (w.alloc (.cells M 5)) w.heap.size m (fun _ => 0) := rowIs_of w M 5 m _ hs hM
/-- The n bytes from off on as a text. -/
def pieceS (X : Nat → Nat) (off n : Nat) : ByteArray := strOfNums ((List.range n).map fun t => (X (off + t) : Int))
theorem pieceS_size (X : Nat → Nat) (off n : Nat) : (pieceS X off n).size = n := by simp [pieceS, strOfNums_size]
theorem RowB.text {u : World} {g m : Nat} {X : Nat → Nat} (r : RowB u g m X) (off n c : Nat) (h : off + n ≤ m) :
    (Go.convert 32 9 (.slice (some ⟨g, off, none⟩) n c)).run Try.prog u = .ok (.string (pieceS X off n)) u := by
  rw [run_convert_bytes_arg (P := Try.prog) u 32 5 Try.underlying32 Try.underlying5 g off n c ((List.range n).map fun t => (X (off + t) : Int)) (by simp) (fun i hi => by
    rw [World.rowIs.cell r (i := off + i) (by omega)]
    simp [List.getD_eq_getElem?_getD, List.getElem?_range hi]) 9 Try.underlying9]
  rfl
theorem byt_piece (X : Nat → Nat) (off n t : Nat) (h : t < n) (hX : ∀ t, X t < 256) : byt (pieceS X off n) t = X (off + t) := by
  unfold pieceS byt strOfNums
  have hx := hX (off + t)
  rw [List.getD_eq_getElem?_getD]
  simp [h]
  omega
theorem u8_some (a b : Int) : ∃ v : Nat, v < 256 ∧ bits .xor .u8 a b = (v : Int) := by
  refine ⟨(bits .xor .u8 a b).toNat, ?_, ?_⟩
  · show ((((BitVec.ofInt 8 a ^^^ BitVec.ofInt 8 b).toNat : Int) % 256).toNat) < 256; omega
  · show (((BitVec.ofInt 8 a ^^^ BitVec.ofInt 8 b).toNat : Int) % 256) = (((((BitVec.ofInt 8 a ^^^ BitVec.ofInt 8 b).toNat : Int) % 256).toNat : Nat) : Int); omega
/-- A row's noughts as a text. -/
theorem nought_text (x : Nat) : ∃ K : ByteArray, K.size = x ∧ ∀ (W : World) (g : Nat), RowB W g x (fun _ => 0) → (Go.convert 32 9 (.slice (some ⟨g, 0, none⟩) x x)).run Try.prog W = .ok (.string K) W :=
  ⟨pieceS (fun _ => 0) 0 x, pieceS_size _ _ _, fun _ _ r => r.text 0 x x (by omega)⟩
/-- An operation that yields the same in every world, taken first, its destination written out. -/
theorem take_to {P : Program} {md : Region.Mode} {ops : Array Oper} {Q : Exit → Act → World → Prop} {i : Nat} {oi : Oper} {fuel : Nat} {listed : Array Bool} {a : Act} {w : World} (di : Option Tmp) (v : Value) (hi : ops[i]? = some oi) (hdi : oi.dst = di)
    (hs : Region.noSelect ops = true) (hf : Region.free md ops listed i = true) (hr : (Region.ready md ops listed).contains i = true)
    (hQ : ∀ c a w, Q (.panic c) (a.put di v) w → Q (.panic c) a w) (hy : Yields P ops oi v a)
    (h : wpAny P md ops Q fuel (listed.setIfInBounds i true) (a.put di v) w) : wpAny P md ops Q (fuel + 1) listed a w := by
  subst hdi
  exact wpAny_take hi hs hf hr hQ hy h
/-- The least of three whole numbers. -/
theorem min3 {P : Program} (W : World) (ts : Array TypeId) (t : TypeId) (a b c : Nat) : (Builtin.min_ ts t #[.int .i64 (a : Int), .int .i64 (b : Int), .int .i64 (c : Int)]).run P W = .ok (.int .i64 ((min (min a b) c : Nat) : Int)) W := by
  have h2 : ∀ x y : Nat, (Builtin.min2 (.int .i64 (x : Int)) (.int .i64 (y : Int))).run P W = .ok (.int .i64 ((min x y : Nat) : Int)) W := fun x y => by
    have e : (if (y : Int) < (x : Int) then (y : Int) else (x : Int)) = ((min x y : Nat) : Int) := by split <;> omega
    show (pure (Value.int .i64 (if (y : Int) < (x : Int) then (y : Int) else (x : Int))) : Sem Value).run P W = _
    rw [e]; rfl
  simp only [Builtin.min_, List.foldlM, Sem.run_bind, h2, Result.andThen_ok]
  rfl
/-- Several ways through a region that come together. -/
theorem meet {P : Program} {md : Region.Mode} {ops : Array Oper} {Q : Exit → Act → World → Prop} {n : Nat} {listed : Array Bool} {a : Act} {w : World}
    (F : Value → Value → Act) (L : Array Bool) (f : Nat) (C : World → Prop) (key : ∀ p q W, C W → wpAny P md ops Q f L (F p q) W)
    (h : (∀ p q W, C W → wpAny P md ops Q f L (F p q) W) → wpAny P md ops Q n listed a w) : wpAny P md ops Q n listed a w := h key
/-- Several ways that come together, the frame told by what is laid upon the one at hand. -/
theorem meetA {P : Program} {md : Region.Mode} {ops : Array Oper} {Q : Exit → Act → World → Prop} {n : Nat} {listed : Array Bool} {a : Act} {w : World} {α : Type}
    (F : α → Act → Act) (L : Array Bool) (f : Nat) (C : α → World → Prop) (key : ∀ x W, C x W → wpAny P md ops Q f L (F x a) W)
    (h : (∀ x W, C x W → wpAny P md ops Q f L (F x a) W) → wpAny P md ops Q n listed a w) : wpAny P md ops Q n listed a w := h key
end Go.Proofs.Lw
/-
  Laws for a walk over whole arrays by value: an array that is boxed, and one of its elements.
-/
namespace Go.Proofs.Im
open Go.RowKit
section
variable {P : Program} {w : World} {ops : Array Oper} {rest : List Oper} {o : Oper} {a : Act} {Q : Exit → Act → World → Prop}
/-- A new variable that begins with an array, at the block g. -/
theorem wpList_box_to (hg : o.guard = none) (t : TypeId) (x : Operand) (ho : o.op = .box t x) (cells : Array Value) (hx : a.eval x = .agg cells) (g : Nat) (hs : w.heap.size = g)
    (h : wpList P ops Q rest (a.put o.dst (.pointer (some ⟨g, 0, none⟩))) (w.alloc (.cells cells t))) : wpList P ops Q (o :: rest) a w := by
  subst hs
  refine wpList_plain hg fun _ hK => ?_
  have hr : (Instr.box t (.agg cells)).run P w = .ok (.pointer (some ⟨w.heap.size, 0, none⟩)) (w.alloc (.cells cells t)) := rfl
  unfold Oper.wp execOp
  simp only [ho, hx, Sem.run_bind, hr, Result.andThen_ok]
  exact hK _ _ h
end
/-- An array's element. -/
theorem run_index_row {P : Program} (w : World) (t e n : Nat) (cs : Array Value) (k : IntKind) (j : Nat) (v : Value) (hu : P.underlying t = some (.array n e)) (hi : (P.info? e).map (·.size) = some 1)
    (d : TypeDesc) (he : P.underlying e = some d) (hd : d.isRow = false) (hj : j < n) (hv : cs[j]? = some v) :
    (Instr.index t (.agg cs) (.int k (j : Int))).run P w = .ok v w := by
  cases hq : P.info? e with
  | none => simp [hq] at hi
  | some i =>
    have hs : i.size = 1 := by simpa [hq] using hi
    have hagg : (isAgg e).run P w = .ok false w := by
      unfold isAgg
      rw [Sem.run_bind, run_underlying he w]
      cases d <;> simp_all
    simp [Instr.index, asIntOf, Sem.run_bind, run_underlying hu w, hj, sizeOf, typeInfo, hq, hs, part, hagg, hv]
/-- A row's cells, known otherwise. -/
theorem rowIs_heap {w : World} {b : Nat} {t : TypeId} {n : Nat} {f : Nat → Value} (h : w.rowIs b t n f) (c : Array Value) (hn : c.size = n) (hc : ∀ i, i < n → c[i]? = some (f i)) : w.heap[b]? = some (.cells c t (0, 0)) := by
  obtain ⟨c', hb, hn', hc'⟩ := h
  rw [hb]
  have : c' = c := by
    apply Array.ext_getElem?
    intro i
    by_cases hi : i < n
    · rw [hc' i hi, hc i hi]
    · rw [Array.getElem?_eq_none (by omega), Array.getElem?_eq_none (by omega)]
  rw [this]
theorem words_heap {w : World} {b : Nat} {t : TypeId} {n : Nat} {k : IntKind} {f : Nat → Nat} (h : w.rowIs b t n (fun i => .int k (f i : Nat))) (l : List Nat) (hn : l.length = n) (hc : ∀ i, i < n → f i = l.getD i 0) : w.heap[b]? = some (.cells (Sha.wordCells k l) t (0, 0)) :=
  rowIs_heap h _ (by rw [Sha.wordCells_size, hn]) fun i hi => by rw [Sha.wordCells_get k l i (by omega), hc i hi]
theorem words_one (k : IntKind) (l : List Nat) : (Sha.wordCells k l).all (·.oneCell') = true :=
  all_oneCell_toArray fun v hv => by
    obtain ⟨n, _, rfl⟩ := List.mem_map.1 hv
    rfl
end Go.Proofs.Im
