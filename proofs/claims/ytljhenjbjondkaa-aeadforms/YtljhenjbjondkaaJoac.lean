/-
  Laws for a walk over whole arrays by value: an array that is boxed, and one of its elements.
-/
import Derived.Test.YtljhenjbjondkaaJoaa
import Derived.Deep.MidRow
import Derived.Test.YtljhenjbjondkaaProg
import Derived.Test.YtljhenjbjondkaaJoab
import Derived.Deep.OwnRows
import Derived.Deep.DeepCutAuto
import Derived.Deep.WholeRow
import Derived.Laws.Tables
import Derived.Laws.CopyOwn
import Derived.Laws.BitsAllLaws
import Derived.WalkSmall
import Derived.BigQuiet
import Derived.Deep.QuietTactic
import Derived.Laws.BytesArg
namespace Go.Proofs.Im
open Go.RowKit
section
variable {P : Program} {w : World} {ops : Array Oper} {rest : List Oper} {o : Oper} {a : Act} {Q : Exit → Act → World → Prop}
/-- A new variable that begins with an array, at the block g. -/
theorem wpList_box_to (hg : o.guard = none) (t : TypeId) (x : Operand) (ho : o.op = .box t x) (cells : Array Value) (hx : a.eval x = .agg cells) (g : Nat) (hs : w.heap.size = g)
    (h : wpList P ops Q rest (a.put o.dst (.pointer (some ⟨g, 0, none⟩))) (w.alloc (.cells cells t))) : wpList P ops Q (o :: rest) a w := by
  subst hs
  refine wpList_plain hg fun _ hK => ?_
  have hr : (Instr.box t (.agg cells)).run P w = .ok (.pointer (some ⟨w.heap.size, 0, none⟩)) (w.alloc (.cells cells t)) := rfl
  unfold Oper.wp execOp
  simp only [ho, hx, Sem.run_bind, hr, Result.andThen_ok]
  exact hK _ _ h
end
/-- An array's element. -/
theorem run_index_row {P : Program} (w : World) (t e n : Nat) (cs : Array Value) (k : IntKind) (j : Nat) (v : Value) (hu : P.underlying t = some (.array n e)) (hi : (P.info? e).map (·.size) = some 1)
    (d : TypeDesc) (he : P.underlying e = some d) (hd : d.isRow = false) (hj : j < n) (hv : cs[j]? = some v) :
    (Instr.index t (.agg cs) (.int k (j : Int))).run P w = .ok v w := by
  cases hq : P.info? e with
  | none => simp [hq] at hi
  | some i =>
    have hs : i.size = 1 := by simpa [hq] using hi
    have hagg : (isAgg e).run P w = .ok false w := by
      unfold isAgg
      rw [Sem.run_bind, run_underlying he w]
      cases d <;> simp_all
    simp [Instr.index, asIntOf, Sem.run_bind, run_underlying hu w, hj, sizeOf, typeInfo, hq, hs, part, hagg, hv]
/-- A row's cells, known otherwise. -/
theorem rowIs_heap {w : World} {b : Nat} {t : TypeId} {n : Nat} {f : Nat → Value} (h : w.rowIs b t n f) (c : Array Value) (hn : c.size = n) (hc : ∀ i, i < n → c[i]? = some (f i)) : w.heap[b]? = some (.cells c t (0, 0)) := by
  obtain ⟨c', hb, hn', hc'⟩ := h
  rw [hb]
  have : c' = c := by
    apply Array.ext_getElem?
    intro i
    by_cases hi : i < n
    · rw [hc' i hi, hc i hi]
    · rw [Array.getElem?_eq_none (by omega), Array.getElem?_eq_none (by omega)]
  rw [this]
theorem words_heap {w : World} {b : Nat} {t : TypeId} {n : Nat} {k : IntKind} {f : Nat → Nat} (h : w.rowIs b t n (fun i => .int k (f i : Nat))) (l : List Nat) (hn : l.length = n) (hc : ∀ i, i < n → f i = l.getD i 0) : w.heap[b]? = some (.cells (Sha.wordCells k l) t (0, 0)) :=
  rowIs_heap h _ (by rw [Sha.wordCells_size, hn]) fun i hi => by rw [Sha.wordCells_get k l i (by omega), hc i hi]
theorem words_one (k : IntKind) (l : List Nat) : (Sha.wordCells k l).all (·.oneCell') = true :=
  all_oneCell_toArray fun v hv => by
    obtain ⟨n, _, rfl⟩ := List.mem_map.1 hv
    rfl
end Go.Proofs.Im
/-
  The document's own answer: Poly1305's limbs, carried.
-/
namespace Go.Proofs.Pol
open Go.RowKit
open Go.Proofs.Im (wpList_box_to words_heap words_one run_index_row)
open Go.Proofs.Sha (wordCells wordCells_get wordCells_size rowIs_of wpList_alloc_to)
/-- Five limbs as a value. -/
def lmL (d : Nat → Nat) : List Nat := [d 0, d 1, d 2, d 3, d 4]
def lmA (d : Nat → Nat) : Array Value := wordCells .u64 (lmL d)
theorem lt5 {P : Nat → Prop} (h0 : P 0) (h1 : P 1) (h2 : P 2) (h3 : P 3) (h4 : P 4) (i : Nat) (hi : i < 5) : P i := by
  match i, hi with
  | 0, _ => exact h0
  | 1, _ => exact h1
  | 2, _ => exact h2
  | 3, _ => exact h3
  | 4, _ => exact h4
theorem lmA_get (d : Nat → Nat) (i : Nat) (hi : i < 5) : (lmA d)[i]? = some (.int .u64 (d i : Nat)) := lt5 (P := fun i => (lmA d)[i]? = some (.int .u64 (d i : Nat))) rfl rfl rfl rfl rfl i hi
theorem lmA_congr {d e : Nat → Nat} (h : ∀ i, i < 5 → d i = e i) : lmA d = lmA e := by
  unfold lmA lmL; rw [h 0 (by decide), h 1 (by decide), h 2 (by decide), h 3 (by decide), h 4 (by decide)]
theorem lmA_one (d : Nat → Nat) : (lmA d).all (·.oneCell') = true := words_one _ _
theorem lmA_size (d : Nat → Nat) : (lmA d).size = 5 := rfl
/-- Five limbs in memory. -/
def RQ (w : World) (g : Nat) (d : Nat → Nat) : Prop := w.rowIs g 71 5 (fun i => .int .u64 (d i : Nat))
theorem RQ.set {w : World} {g : Nat} {d : Nat → Nat} (h : RQ w g d) (j v : Nat) : RQ (w.setCell ⟨g, j, none⟩ (.int .u64 v)) g (fun i => if i = j then v else d i) :=
  World.rowIs.congr (World.rowIs.set h j (.int .u64 v)) fun i _ => by simp only []; split <;> rfl
theorem RQ.congr {w : World} {g : Nat} {d e : Nat → Nat} (h : RQ w g d) (he : ∀ i, i < 5 → d i = e i) : RQ w g e := World.rowIs.congr h fun i hi => by rw [he i hi]
theorem RQ.heap {w : World} {g : Nat} {d : Nat → Nat} (h : RQ w g d) : w.heap[g]? = some (.cells (lmA d) 71 (0, 0)) := words_heap h (lmL d) rfl (lt5 rfl rfl rfl rfl rfl)
theorem RQ.new (w : World) (d : Nat → Nat) : RQ (w.alloc (.cells (lmA d) 71)) w.heap.size d := rowIs_of w (lmA d) 71 5 _ rfl (lmA_get d)
theorem RQ.at_ {w : World} {g : Nat} {d : Nat → Nat} (h : RQ w g d) (i v : Nat) (hi : i < 5) (e : d i = v) : w.cell? ⟨g, i, none⟩ = some (.int .u64 (v : Nat)) := by rw [World.rowIs.cell h hi, e]
theorem RQ.other {w : World} {g : Nat} {d : Nat → Nat} (h : RQ w g d) {a : Addr} (ha : g ≠ a.block) (v : Value) : RQ (w.setCell a v) g d := World.rowIs.setOther h ha v
theorem RQ.drewN {w : World} {g : Nat} {d : Nat → Nat} (h : RQ w g d) (q : Nat) : RQ (w.drewN q) g d := h
theorem RQ.on {u v : World} {g : Nat} {d : Nat → Nat} (r : RQ u g d) (hb : Below u.heap.size u v) : RQ v g d := World.rowIs.of_block r (hb.block g (World.rowIs.lt r))
theorem alloc5 (w : World) : (Instr.alloc 71 true (.tuple #[])).run Try.prog w = .ok (.pointer (some ⟨w.heap.size, 0, none⟩)) (w.alloc (.cells (lmA fun _ => 0) 71)) := by kernel_rfl
/-- The carry into limb i; the limbs carried. -/
def cc (d : Nat → Nat) : Nat → Nat
  | 0 => 0
  | i + 1 => (d i + cc d i) / 67108864
def carS (d : Nat → Nat) (i : Nat) : Nat := (d i + cc d i) % 67108864 + (if i = 0 then 5 * cc d 5 else 0)
theorem cc_lt {d : Nat → Nat} (h : ∀ i, d i < 1152921504606846976) (i : Nat) : cc d i < 34359738368 := by
  induction i with
  | zero => show 0 < _; decide
  | succ i ih => show (d i + cc d i) / 67108864 < _; have := h i; omega
def mid (d : Nat → Nat) (j i : Nat) : Nat := if i < j then (d i + cc d i) % 67108864 else d i
theorem mid_at (d : Nat → Nat) (j : Nat) : mid d j j = d j := by unfold mid; rw [if_neg (by omega)]
theorem mid_zero (d : Nat → Nat) (i : Nat) : d i = mid d 0 i := by unfold mid; rw [if_neg (by omega)]
theorem mid_succ (d : Nat → Nat) (j i : Nat) : (if i = j then (d j + cc d j) % 67108864 else if i = j then d j + cc d j else mid d j i) = mid d (j + 1) i := by
  unfold mid
  by_cases h : i = j
  · subst h; rw [if_pos rfl, if_pos (Nat.lt_succ_self _)]
  · rw [if_neg h, if_neg h]
    by_cases h2 : i < j
    · rw [if_pos h2, if_pos (by omega)]
    · rw [if_neg h2, if_neg (by omega)]
theorem mid_end (d : Nat → Nat) (i : Nat) (h : i < 5) : (if i = 0 then mid d 5 0 + 5 * cc d 5 else mid d 5 i) = carS d i := by
  unfold mid carS
  by_cases h0 : i = 0
  · subst h0; rw [if_pos rfl, if_pos (by decide), if_pos rfl]
  · rw [if_neg h0, if_pos h, if_neg h0, Nat.add_zero]
theorem mask26 (x : Nat) (hx : x < 18446744073709551616) : bits .and .u64 (x : Int) 67108863 = ((x % 67108864 : Nat) : Int) := by
  have h := u64_and_nat x 67108863 hx (by decide)
  rw [show 67108863 = 2 ^ 26 - 1 from rfl, Nat.and_two_pow_sub_one_eq_mod] at h
  exact h
/-- A call's boxed limbs, and its result's place. -/
def Mem5 (w u : World) (d : Nat → Nat) : Prop := RQ u w.heap.size d ∧ RQ u (w.heap.size + 1) (fun _ => 0) ∧ Below w.heap.size w u
theorem mem5_new (w : World) (d : Nat → Nat) : Mem5 w ((w.alloc (.cells (lmA d) 71)).alloc (.cells (lmA fun _ => 0) 71)) d := by
  have h := RQ.new (w.alloc (.cells (lmA d) 71)) (fun _ => 0)
  rw [show (w.alloc (.cells (lmA d) 71)).heap.size = w.heap.size + 1 by simp] at h
  exact ⟨World.rowIs.alloc (RQ.new w d) _, h, ((Below.refl _ _).alloc (Nat.le_refl _) _).alloc (by simp) _⟩
theorem Mem5.set {w u : World} {d : Nat → Nat} (h : Mem5 w u d) (j v : Nat) : Mem5 w (u.setCell ⟨w.heap.size, j, none⟩ (.int .u64 v)) (fun i => if i = j then v else d i) :=
  ⟨h.1.set j v, h.2.1.other (by simp) _, h.2.2.setCell (Nat.le_refl _) _⟩
theorem Mem5.congr {w u : World} {d e : Nat → Nat} (h : Mem5 w u d) (he : ∀ i, i < 5 → d i = e i) : Mem5 w u e := ⟨h.1.congr he, h.2⟩
end Go.Proofs.Pol
/-
  The document's own answer: Poly1305's product.
-/
namespace Go.Proofs.Pol
open Go.RowKit
open Go.Proofs.Im (wpList_box_to words_heap words_one run_index_row)
open Go.Proofs.Sha (wordCells wordCells_get wordCells_size rowIs_of wpList_alloc_to)
/-- One term; the sums of the first k. -/
def term (h r : Nat → Nat) (i j : Nat) : Nat := if 4 < i + j then 5 * (h i * r j) else h i * r j
def prS (h r : Nat → Nat) : Nat → Nat → Nat
  | 0 => fun _ => 0
  | k + 1 => fun t => if t = (k / 5 + k % 5) % 5 then prS h r k t + term h r (k / 5) (k % 5) else prS h r k t
theorem term_lt {h r : Nat → Nat} (hh : ∀ i, h i < 134218752) (hr : ∀ i, r i < 67108864) (i j : Nat) : h i * r j < 9007267974217728 ∧ term h r i j < 45036339871088640 := by
  have h1 : h i * r j ≤ 134218751 * 67108863 := Nat.mul_le_mul (by have := hh i; omega) (by have := hr j; omega)
  refine ⟨by omega, ?_⟩
  unfold term; split <;> omega
theorem prS_lt {h r : Nat → Nat} (hh : ∀ i, h i < 134218752) (hr : ∀ i, r i < 67108864) (k t : Nat) : prS h r k t ≤ k * 45036339871088640 := by
  induction k with
  | zero => simp only [prS, Nat.zero_mul, Nat.le_refl]
  | succ k ih =>
    have h1 := (term_lt hh hr (k / 5) (k % 5)).2
    have e : prS h r (k + 1) t = (if t = (k / 5 + k % 5) % 5 then prS h r k t + term h r (k / 5) (k % 5) else prS h r k t) := rfl
    rw [e, Nat.add_mul, Nat.one_mul]
    generalize k * 45036339871088640 = m at ih ⊢
    generalize term h r (k / 5) (k % 5) = b at h1 ⊢
    generalize prS h r k t = a at ih ⊢
    split
    · exact Nat.add_le_add ih (Nat.le_of_lt h1)
    · exact Nat.le_trans ih (Nat.le_add_right _ _)
theorem carS_lt {d : Nat → Nat} (h : ∀ i, d i < 1152921504606846976) (i : Nat) : carS d i < 171866062848 := by
  have := cc_lt h 5
  unfold carS
  have := Nat.mod_lt (d i + cc d i) (show 67108864 > 0 by decide)
  split <;> omega
/-- The product's limbs. -/
def mulS (h r : Nat → Nat) : Nat → Nat := carS (carS (prS h r 25))
/-- The boxed factors, the result's place, the sums. -/
def Mem7 (w u : World) (h r d : Nat → Nat) : Prop := RQ u w.heap.size h ∧ RQ u (w.heap.size + 1) r ∧ RQ u (w.heap.size + 2) (fun _ => 0) ∧ RQ u (w.heap.size + 3) d ∧ Below w.heap.size w u
theorem mem7_new (w : World) (h r : Nat → Nat) : Mem7 w ((((w.alloc (.cells (lmA h) 71)).alloc (.cells (lmA r) 71)).alloc (.cells (lmA fun _ => 0) 71)).alloc (.cells (lmA fun _ => 0) 71)) h r (fun _ => 0) := by
  have a1 := RQ.new w h
  have b1 : Below w.heap.size w (w.alloc (.cells (lmA h) 71)) := (Below.refl _ _).alloc (Nat.le_refl _) _
  have s1 : (w.alloc (.cells (lmA h) 71)).heap.size = w.heap.size + 1 := by simp
  generalize w.alloc (.cells (lmA h) 71) = w1 at a1 b1 s1 ⊢
  have a2 := RQ.new w1 r
  have s2 : (w1.alloc (.cells (lmA r) 71)).heap.size = w.heap.size + 2 := by simp [s1]
  have b2 : Below w.heap.size w (w1.alloc (.cells (lmA r) 71)) := b1.alloc (by omega) _
  have a1 : RQ (w1.alloc (.cells (lmA r) 71)) w.heap.size h := World.rowIs.alloc a1 _
  rw [s1] at a2
  generalize w1.alloc (.cells (lmA r) 71) = w2 at a1 a2 b2 s2 ⊢
  have a3 := RQ.new w2 (fun _ => 0)
  have s3 : (w2.alloc (.cells (lmA fun _ => 0) 71)).heap.size = w.heap.size + 3 := by simp [s2]
  have b3 : Below w.heap.size w (w2.alloc (.cells (lmA fun _ => 0) 71)) := b2.alloc (by omega) _
  have a1 : RQ (w2.alloc (.cells (lmA fun _ => 0) 71)) w.heap.size h := World.rowIs.alloc a1 _
  have a2 : RQ (w2.alloc (.cells (lmA fun _ => 0) 71)) (w.heap.size + 1) r := World.rowIs.alloc a2 _
  rw [s2] at a3
  generalize w2.alloc (.cells (lmA fun _ => 0) 71) = w3 at a1 a2 a3 b3 s3 ⊢
  have a4 := RQ.new w3 (fun _ => 0)
  rw [s3] at a4
  exact ⟨World.rowIs.alloc a1 _, World.rowIs.alloc a2 _, World.rowIs.alloc a3 _, a4, b3.alloc (by omega) _⟩
theorem Mem7.set {w u : World} {h r d : Nat → Nat} (m : Mem7 w u h r d) (j v : Nat) : Mem7 w (u.setCell ⟨w.heap.size + 3, j, none⟩ (.int .u64 v)) h r (fun i => if i = j then v else d i) :=
  ⟨m.1.other (by simp) _, m.2.1.other (by simp) _, m.2.2.1.other (by simp) _, m.2.2.2.1.set j v, m.2.2.2.2.setCell (by simp) _⟩
theorem Mem7.drewN {w u : World} {h r d : Nat → Nat} (m : Mem7 w u h r d) (q : Nat) : Mem7 w (u.drewN q) h r d := ⟨m.1, m.2.1, m.2.2.1, m.2.2.2.1, Lw.below_drewN m.2.2.2.2 q⟩
end Go.Proofs.Pol
/-
  The document's own answer: Poly1305's end.
-/
namespace Go.Proofs.Pol
open Go.RowKit
open Go.Proofs.Aes (byt byt_lt get_byt)
open Go.Proofs.Im (wpList_box_to words_heap words_one run_index_row)
open Go.Proofs.Sha (wordCells wordCells_get wordCells_size rowIs_of wpList_alloc_to)
/-- The limbs, 5 more. -/
def five (d : Nat → Nat) (i : Nat) : Nat := if i = 0 then d 0 + 5 else d i
/-- The least number's limbs. -/
def least (d : Nat → Nat) : Nat → Nat := if 0 < cc (five d) 5 then mid (five d) 5 else d
def endL (h : Nat → Nat) : Nat → Nat := least (carS (carS h))
/-- Bit j of limbs; the first n bits of byte i. -/
def bitL (d : Nat → Nat) (j : Nat) : Nat := d (j / 26) / 2 ^ (j % 26) % 2
def byteL (d : Nat → Nat) (i : Nat) : Nat → Nat
  | 0 => 0
  | k + 1 => byteL d i k + bitL d (8 * i + k) * 2 ^ k
theorem byteL_lt (d : Nat → Nat) (i k : Nat) : byteL d i k < 2 ^ k := by
  induction k with
  | zero => show 0 < 1; decide
  | succ k ih =>
    show byteL d i k + bitL d (8 * i + k) * 2 ^ k < 2 ^ (k + 1)
    have h1 : bitL d (8 * i + k) ≤ 1 := by unfold bitL; omega
    have h2 : bitL d (8 * i + k) * 2 ^ k ≤ 1 * 2 ^ k := Nat.mul_le_mul_right _ h1
    rw [Nat.pow_succ]; omega
/-- What is carried into byte i of the sum; the bytes. -/
def sumL (d : Nat → Nat) (s : ByteArray) : Nat → Nat
  | 0 => 0
  | i + 1 => (sumL d s i + byteL d i 8 + byt s i) / 256
def finB (d : Nat → Nat) (s : ByteArray) (i : Nat) : Nat := (sumL d s i + byteL d i 8 + byt s i) % 256
def finS (d : Nat → Nat) (s : ByteArray) : ByteArray := strOfNums ((List.range 16).map fun i => (finB d s i : Int))
theorem finS_size (d : Nat → Nat) (s : ByteArray) : (finS d s).size = 16 := by simp [finS, strOfNums_size]
theorem sumL_lt (d : Nat → Nat) (s : ByteArray) (i : Nat) : sumL d s i < 3 := by
  induction i with
  | zero => show 0 < 3; decide
  | succ i ih =>
    show (sumL d s i + byteL d i 8 + byt s i) / 256 < 3
    have h1 := byteL_lt d i 8
    have h2 := byt_lt s i
    rw [show (2 : Nat) ^ 8 = 256 from rfl] at h1
    omega
theorem or_bit (b x k : Nat) (hb : b < 2 ^ k) (hx : x ≤ 1) (hk : k < 8) : bits .or .i64 (b : Int) ((x * 2 ^ k : Nat) : Int) = ((b + x * 2 ^ k : Nat) : Int) := by
  have hp : 2 ^ k ≤ 2 ^ 7 := Nat.pow_le_pow_right (by decide) (by omega)
  have hx2 : x * 2 ^ k ≤ 1 * 2 ^ k := Nat.mul_le_mul_right _ hx
  rw [show (2 : Nat) ^ 7 = 128 from rfl] at hp
  have ho : b ||| x * 2 ^ k = b + x * 2 ^ k := by rw [Nat.or_comm, nat_join k (x * 2 ^ k) b (Nat.mul_mod_left _ _) hb, Nat.add_comm]
  show IntKind.i64.wrap ((BitVec.ofInt 64 (b : Int) ||| BitVec.ofInt 64 ((x * 2 ^ k : Nat) : Int)).toNat : Int) = _
  rw [BitVec.toNat_or, ofInt_u64 b (by omega), ofInt_u64 (x * 2 ^ k) (by omega), ho]
  exact IntWalk.i64_in _ (by omega)
theorem and_one (x : Nat) (hx : x < 18446744073709551616) : bits .and .u64 (x : Int) 1 = ((x % 2 : Nat) : Int) := by
  have h := u64_and_nat x 1 hx (by decide)
  rw [show (1 : Nat) = 2 ^ 1 - 1 from rfl, Nat.and_two_pow_sub_one_eq_mod] at h
  exact h
/-- The limbs' two rows. -/
def Mem9 (w u : World) (gg : Nat) (d e : Nat → Nat) : Prop := RQ u w.heap.size d ∧ RQ u gg e ∧ Below w.heap.size w u
theorem Mem9.set {w u : World} {gg : Nat} {d e : Nat → Nat} (h : Mem9 w u gg d e) (hg : w.heap.size < gg) (j v : Nat) : Mem9 w (u.setCell ⟨gg, j, none⟩ (.int .u64 v)) gg d (fun i => if i = j then v else e i) :=
  ⟨h.1.other (Nat.ne_of_lt hg) _, h.2.1.set j v, h.2.2.setCell (Nat.le_of_lt hg) _⟩
theorem Mem9.congr {w u : World} {gg : Nat} {d e f : Nat → Nat} (h : Mem9 w u gg d e) (he : ∀ i, i < 5 → e i = f i) : Mem9 w u gg d f := ⟨h.1, h.2.1.congr he, h.2.2⟩
/-- The bytes so far. -/
def outP (f : Nat → Nat) (n t : Nat) : Nat := if t < n then f t else 0
theorem outP_succ (f : Nat → Nat) (n t : Nat) : (if t = n then f n else outP f n t) = outP f (n + 1) t := by
  unfold outP
  by_cases h : t = n
  · subst h; rw [if_pos rfl, if_pos (Nat.lt_succ_self _)]
  · rw [if_neg h]
    by_cases h2 : t < n
    · rw [if_pos h2, if_pos (by omega)]
    · rw [if_neg h2, if_neg (by omega)]
end Go.Proofs.Pol
