/-
  Poly1305 in numbers: a text's blocks and their sum, bounds of the limbs that the document's own answer keeps. Of no program.
-/
import Derived.Test.YtljhenjbjondkaaGreatJoae
import Derived.Test.YtljhenjbjondkaaGreatJoaf
import Derived.Test.YtljhenjbjondkaaGreatJoaj
import Derived.Test.YtljhenjbjondkaaGreatJoaa
namespace Go.Proofs.Pol
open Go.RowKit
open Go.Proofs.Aes (byt byt_lt)
open Go.Proofs.Cha (byt_left byt_right byt_cut text_ext byt_nums)
/-- The factor's bytes; the factor; the pad. -/
def maskL : List Nat := [255, 255, 255, 15, 252, 255, 255, 15, 252, 255, 255, 15, 252, 255, 255, 15]
def maskB (i : Nat) : Nat := maskL.getD i 0
def rB (key : ByteArray) (i : Nat) : Nat := byt key i &&& maskB i
theorem rB_lt (key : ByteArray) (i : Nat) : rB key i < 256 := Nat.lt_of_le_of_lt Nat.and_le_left (byt_lt key i)
def rN (key : ByteArray) : Nat := leB (rB key) 16
def padN (key : ByteArray) : Nat := leB (fun i => byt key (16 + i)) 16
/-- Block k: how many bytes it has, its number. -/
def blkL (s : ByteArray) (k : Nat) : Nat := min 16 (s.size - 16 * k)
def blkB (s : ByteArray) (k i : Nat) : Nat := byt s (16 * k + i)
theorem blkB_lt (s : ByteArray) (k i : Nat) : blkB s k i < 256 := byt_lt _ _
def blkN (s : ByteArray) (k : Nat) : Nat := leB (blkB s k) (blkL s k) + 256 ^ blkL s k
/-- The sum behind k blocks, from a on; behind all. -/
def runK (r a : Nat) (s : ByteArray) : Nat → Nat
  | 0 => a
  | k + 1 => (runK r a s k + blkN s k) * r % p130
def runN (r a : Nat) (s : ByteArray) : Nat := runK r a s ((s.size + 15) / 16)
/-- A tag. -/
def macS (key s : ByteArray) : ByteArray := tagS (runN (rN key) 0 s) (padN key)
theorem macS_size (key s : ByteArray) : (macS key s).size = 16 := tagS_size _ _
theorem p130_pos : 0 < p130 := by unfold p130; decide
theorem runK_lt (r a : Nat) (ha : a < p130) (s : ByteArray) (k : Nat) : runK r a s k < p130 := by
  cases k with
  | zero => exact ha
  | succ k => exact Nat.mod_lt _ p130_pos
theorem runN_lt (r a : Nat) (ha : a < p130) (s : ByteArray) : runN r a s < p130 := runK_lt r a ha s _
theorem rN_lt (key : ByteArray) : rN key < 340282366920938463463374607431768211456 := leB_lt (rB_lt key) 16
theorem padN_lt (key : ByteArray) : padN key < 340282366920938463463374607431768211456 := leB_lt (b := fun i => byt key (16 + i)) (fun _ => byt_lt _ _) 16
theorem padN_cut (key : ByteArray) (h : key.size = 32) : leB (byt (key.extract 16 32)) 16 = padN key := leB_congr 16 fun i hi => byt_cut key 16 32 i (by omega) (by omega)
theorem blkL_le (s : ByteArray) (k : Nat) : blkL s k ≤ 16 := Nat.min_le_left _ _
theorem blkN_lt (s : ByteArray) (k : Nat) : blkN s k < 680564733841876926926749214863536422912 := by
  unfold blkN
  have h1 := leB_lt (blkB_lt s k) (blkL s k)
  have h2 : 256 ^ blkL s k ≤ 256 ^ 16 := Nat.pow_le_pow_right (by decide) (blkL_le s k)
  rw [show (256 : Nat) ^ 16 = 340282366920938463463374607431768211456 from rfl] at h2
  omega
/-- Two texts, the first of whole blocks. -/
theorem blkN_left (x y : ByteArray) (k : Nat) (h : 16 * k + 16 ≤ x.size) : blkN (x ++ y) k = blkN x k := by
  have e1 : blkL (x ++ y) k = 16 := by unfold blkL; rw [ByteArray.size_append]; omega
  have e2 : blkL x k = 16 := by unfold blkL; omega
  unfold blkN
  rw [e1, e2, leB_congr (b := blkB (x ++ y) k) (c := blkB x k) 16 fun i hi => byt_left x y (16 * k + i) (by omega)]
theorem blkN_right (x y : ByteArray) (m k : Nat) (h : x.size = 16 * m) : blkN (x ++ y) (m + k) = blkN y k := by
  have e1 : blkL (x ++ y) (m + k) = blkL y k := by unfold blkL; rw [ByteArray.size_append]; omega
  unfold blkN
  rw [e1]
  have hl : blkL y k ≤ y.size - 16 * k := Nat.min_le_right _ _
  rw [leB_congr (c := blkB y k) (blkL y k) fun i hi => ?_]
  unfold blkB
  rw [byt_right x y _ (by omega) (by omega)]
  congr 1
  omega
theorem run_append (r a : Nat) (x y : ByteArray) (h : x.size % 16 = 0) : runN r a (x ++ y) = runN r (runN r a x) y := by
  obtain ⟨m, hm⟩ : ∃ m, x.size = 16 * m := ⟨x.size / 16, by omega⟩
  have hx : ∀ k, k ≤ m → runK r a (x ++ y) k = runK r a x k := by
    intro k
    induction k with
    | zero => intro _; rfl
    | succ k ih =>
      intro hk
      show (runK r a (x ++ y) k + blkN (x ++ y) k) * r % p130 = (runK r a x k + blkN x k) * r % p130
      rw [ih (by omega), blkN_left x y k (by omega)]
  have hy : ∀ k, runK r a (x ++ y) (m + k) = runK r (runK r a x m) y k := by
    intro k
    induction k with
    | zero => exact hx m (Nat.le_refl _)
    | succ k ih =>
      show (runK r a (x ++ y) (m + k) + blkN (x ++ y) (m + k)) * r % p130 = (runK r (runK r a x m) y k + blkN y k) * r % p130
      rw [ih, blkN_right x y m k hm]
  unfold runN
  rw [ByteArray.size_append, show (x.size + y.size + 15) / 16 = m + (y.size + 15) / 16 by omega, hy, show (x.size + 15) / 16 = m by omega]
/-- Noughts; with noughts to whole blocks. -/
def zS (m : Nat) : ByteArray := Lw.pieceS (fun _ => 0) 0 m
theorem zS_size (m : Nat) : (zS m).size = m := Lw.pieceS_size _ _ _
theorem zS_byt (m t : Nat) (h : t < m) : byt (zS m) t = 0 := Lw.byt_piece _ 0 m t h (fun _ => by decide)
def fillS (s : ByteArray) : ByteArray := s ++ zS ((16 - s.size % 16) % 16)
theorem fillS_size (s : ByteArray) : (fillS s).size = 16 * ((s.size + 15) / 16) := by unfold fillS; rw [ByteArray.size_append, zS_size]; omega
/-- What a seal's tag is made of. -/
def allS (aad c : ByteArray) : ByteArray := fillS aad ++ fillS c ++ litS aad.size ++ litS c.size
/-- The limbs that the document's own answer keeps between blocks. -/
def Fine (h : Nat → Nat) : Prop := h 0 < 67108874 ∧ ∀ i, 0 < i → h i < 67108864
theorem Fine.all {h : Nat → Nat} (f : Fine h) (i : Nat) : h i < 67108874 := by
  by_cases e : i = 0
  · subst e; exact f.1
  · have := f.2 i (by omega); omega
theorem fine_zero : Fine fun _ => 0 := ⟨Nat.zero_lt_succ _, fun _ _ => Nat.zero_lt_succ _⟩
theorem mul_fine {h r : Nat → Nat} (hd : ∀ t, prS h r 25 t < 1152921504606846976) : Fine (mulS h r) := by
  unfold mulS
  generalize prS h r 25 = d at hd ⊢
  have hc := cc_small (e := carS d) (carS_lt hd 0) (car_high d 1 (by decide)) (car_high d 2 (by decide)) (car_high d 3 (by decide)) (car_high d 4 (by decide))
  refine ⟨?_, fun i hi => car_high _ i hi⟩
  have : carS (carS d) 0 = (carS d 0 + 0) % 67108864 + 5 * cc (carS d) 5 := rfl
  rw [this]
  have := Nat.mod_lt (carS d 0 + 0) (show 67108864 > 0 by decide)
  omega
theorem cc5 (e : Nat → Nat) : cc e 1 = e 0 / 67108864 ∧ cc e 2 = (e 1 + cc e 1) / 67108864 ∧ cc e 3 = (e 2 + cc e 2) / 67108864 ∧ cc e 4 = (e 3 + cc e 3) / 67108864 ∧ cc e 5 = (e 4 + cc e 4) / 67108864 := ⟨rfl, rfl, rfl, rfl, rfl⟩
theorem car_fine {h : Nat → Nat} (f : Fine h) (i : Nat) : carS h i < 67108864 := by
  by_cases e : i = 0
  · subst e
    have e0 : carS h 0 = h 0 % 67108864 + 5 * cc h 5 := rfl
    obtain ⟨c1, c2, c3, c4, c5⟩ := cc5 h
    have h0 := f.1
    have h1 := f.2 1 (by decide)
    have h2 := f.2 2 (by decide)
    have h3 := f.2 3 (by decide)
    have h4 := f.2 4 (by decide)
    rw [e0]
    generalize cc h 1 = k1 at *
    generalize cc h 2 = k2 at *
    generalize cc h 3 = k3 at *
    generalize cc h 4 = k4 at *
    generalize cc h 5 = k5 at *
    omega
  · exact car_high h i (by omega)
theorem end_lt {h : Nat → Nat} (f : Fine h) (i : Nat) (hi : i < 5) : endL h i < 67108864 := by
  have h2 := car_fine (h := carS h) ⟨Nat.lt_trans (car_fine f 0) (by decide), fun i _ => car_fine f i⟩
  unfold endL least
  split
  · exact mid_lt _ i hi
  · exact h2 i
/-- What the document's own end writes. -/
theorem fin_tag {h : Nat → Nat} (f : Fine h) (s : ByteArray) : finS (endL h) s = tagS (val h % p130) (leB (byt s) 16) := by
  rw [finS_val (end_lt f 0 (by decide)) (end_lt f 1 (by decide)) (end_lt f 2 (by decide)) (end_lt f 3 (by decide)) (end_lt f 4 (by decide)), val_end fun i => Nat.lt_trans (f.all i) (by decide)]
theorem val_plus (h l : Nat → Nat) : val (fun i => h i + l i) = val h + val l := by unfold val; simp only []; omega
/-- A round of the document's own answer. -/
theorem round_val {h : Nat → Nat} {r A : Nat} (hA : val h % p130 = A) (x : Nat) (hx : x < 1361129467683753853853498429727072845824) (hr : r < 1361129467683753853853498429727072845824) :
    val (mulS (fun i => h i + lmb x i) (lmb r)) % p130 = (A + x) * r % p130 := by
  rw [val_mul, val_plus, val_lmb x hx, val_lmb r hr, ← hA, Nat.mul_mod, Nat.mul_mod (val h % p130 + x), Nat.mod_add_mod]
end Go.Proofs.Pol
/-
  Laws for a region that draws its order: a load, a call, a store with the destination written out. Of no program.
-/
namespace Go.Proofs.Rt
open Go.RowKit
open Go.Proofs.Im (ready_load ready_call ready_store)
section
variable {P : Program} {md : Region.Mode} {ops : Array Oper} {Q : Exit → Act → World → Prop} {fuel i : Nat} {listed : Array Bool} {a : Act} {w : World} {o : Oper} {rs : List Nat}
theorem ready_loadTo (di : Option Tmp) (ho : ops[i]? = some o) (hdi : o.dst = di) (hg : o.guard = none) (ty : TypeId) (x : Operand) (hop : o.op = .load ty x) (b off : Nat) (hx : a.eval x = .pointer (some ⟨b, off, none⟩)) (cs : List Value) (d : TypeDesc) (hc : w.rangeAt b off cs)
    (hu : P.underlying ty = some d) (hd : d.isRow = true) (hi : (P.info? ty).map (·.size) = some cs.length)
    (h : wpAny P md ops Q fuel (listed.setIfInBounds i true) (a.put di (.agg cs.toArray)) w)
    (hs : AllReady P md ops Q fuel listed a w rs) : AllReady P md ops Q fuel listed a w (i :: rs) := by
  subst hdi; exact ready_load ho hg ty x hop b off hx cs d hc hu hd hi h hs
theorem ready_callTo (di : Option Tmp) (ho : ops[i]? = some o) (hdi : o.dst = di) (hg : o.guard = none) (f : FuncId) (xs : Array Operand) (ats : Array TypeId) (hop : o.op = .call { callee := .value (.func f), args := xs, argTypes := ats })
    (hr : ∀ args w, (callFunc f args).run P w = .ok (.enter f args) w) (args : Array Value) (ha : xs.map a.eval = args)
    (h : Calls P f args w fun e u => ∃ v, e = .returned v ∧ wpAny P md ops Q fuel (listed.setIfInBounds i true) (a.put di v) u)
    (hs : AllReady P md ops Q fuel listed a w rs) : AllReady P md ops Q fuel listed a w (i :: rs) := by
  subst hdi; exact ready_call ho hg f xs ats hop hr args ha h hs
theorem ready_storeTo (ho : ops[i]? = some o) (hdi : o.dst = none) (hg : o.guard = none) (ty : TypeId) (x y : Operand) (hop : o.op = .store ty x y) (b off : Nat) (cells : Array Value) (hx : a.eval x = .pointer (some ⟨b, off, none⟩)) (hy : a.eval y = .agg cells)
    (ht : w.there b off cells.size) (hi : (P.info? ty).map (·.size) = some cells.size) (h1 : cells.all (·.oneCell') = true)
    (h : wpAny P md ops Q fuel (listed.setIfInBounds i true) (a.put none undef) (w.setCells b off cells.toList))
    (hs : AllReady P md ops Q fuel listed a w rs) : AllReady P md ops Q fuel listed a w (i :: rs) := ready_store ho hg ty x y hop b off cells hx hy ht hi h1 (by rw [hdi]; exact h) hs
end
end Go.Proofs.Rt
