/-
  Laws for a region that draws its order: a load, a call, a store with the destination written out. Of no program.
-/
import Derived.Test.YtljhenjbjondkaaJoaa
import Derived.Test.YtljhenjbjondkaaJoah
import Derived.Test.YtljhenjbjondkaaJoaf
import Derived.BigQuiet
import Derived.Deep.QuietTactic
import Derived.Test.YtljhenjbjondkaaJoag
import Derived.Deep.RegionHeld3
import Derived.WalkKit
import Derived.WalkSpells
import Derived.PlainAid
import Derived.Lib.Hide
import Derived.Laws.BitsAllLaws
import Derived.Test.YtljhenjbjondkaaProg
import Derived.Handy
import Derived.WalkSmall
import Derived.Deep.OwnRows
import Derived.Deep.MidRow
import Derived.StillTailTactics
import Derived.Deep.DeepCutAuto
import Derived.Laws.BytesArg
namespace Go.Proofs.Rt
open Go.RowKit
open Go.Proofs.Im (ready_load ready_call ready_store)
section
variable {P : Program} {md : Region.Mode} {ops : Array Oper} {Q : Exit → Act → World → Prop} {fuel i : Nat} {listed : Array Bool} {a : Act} {w : World} {o : Oper} {rs : List Nat}
theorem ready_loadTo (di : Option Tmp) (ho : ops[i]? = some o) (hdi : o.dst = di) (hg : o.guard = none) (ty : TypeId) (x : Operand) (hop : o.op = .load ty x) (b off : Nat) (hx : a.eval x = .pointer (some ⟨b, off, none⟩)) (cs : List Value) (d : TypeDesc) (hc : w.rangeAt b off cs)
    (hu : P.underlying ty = some d) (hd : d.isRow = true) (hi : (P.info? ty).map (·.size) = some cs.length)
    (h : wpAny P md ops Q fuel (listed.setIfInBounds i true) (a.put di (.agg cs.toArray)) w)
    (hs : AllReady P md ops Q fuel listed a w rs) : AllReady P md ops Q fuel listed a w (i :: rs) := by
  subst hdi; exact ready_load ho hg ty x hop b off hx cs d hc hu hd hi h hs
theorem ready_callTo (di : Option Tmp) (ho : ops[i]? = some o) (hdi : o.dst = di) (hg : o.guard = none) (f : FuncId) (xs : Array Operand) (ats : Array TypeId) (hop : o.op = .call { callee := .value (.func f), args := xs, argTypes := ats })
    (hr : ∀ args w, (callFunc f args).run P w = .ok (.enter f args) w) (args : Array Value) (ha : xs.map a.eval = args)
    (h : Calls P f args w fun e u => ∃ v, e = .returned v ∧ wpAny P md ops Q fuel (listed.setIfInBounds i true) (a.put di v) u)
    (hs : AllReady P md ops Q fuel listed a w rs) : AllReady P md ops Q fuel listed a w (i :: rs) := by
  subst hdi; exact ready_call ho hg f xs ats hop hr args ha h hs
theorem ready_storeTo (ho : ops[i]? = some o) (hdi : o.dst = none) (hg : o.guard = none) (ty : TypeId) (x y : Operand) (hop : o.op = .store ty x y) (b off : Nat) (cells : Array Value) (hx : a.eval x = .pointer (some ⟨b, off, none⟩)) (hy : a.eval y = .agg cells)
    (ht : w.there b off cells.size) (hi : (P.info? ty).map (·.size) = some cells.size) (h1 : cells.all (·.oneCell') = true)
    (h : wpAny P md ops Q fuel (listed.setIfInBounds i true) (a.put none undef) (w.setCells b off cells.toList))
    (hs : AllReady P md ops Q fuel listed a w rs) : AllReady P md ops Q fuel listed a w (i :: rs) := ready_store ho hg ty x y hop b off cells hx hy ht hi h1 (by rw [hdi]; exact h) hs
end
end Go.Proofs.Rt
/-
  The document's own answer: a Poly1305 tag.
-/
namespace Go.Proofs.Pol
open Go.RowKit
open Go.Proofs.Aes (byt byt_lt get_byt)
open Go.Proofs.Im (wp_region_quiet_tail words_one)
open Go.Proofs.Rt (ready_loadTo ready_callTo)
open Go.Proofs.Sha (wordCells wordCells_get wordCells_size rowIs_of wpList_alloc_to wpList_build_to)
def mkA : Array Value := wordCells .u8 maskL
theorem rowIs_setOther {w : World} {g g' : Nat} {t : TypeId} {n : Nat} {f : Nat → Value} (h : w.rowIs g t n f) (hg : g ≠ g') (C : Array Value) : (w.setRow g' C).rowIs g t n f := World.rowIs.of_block h (setRow_other w g' g C hg)
theorem or64 (b x k : Nat) (hb : b < 2 ^ k) (hx : x ≤ 1) (hk : k < 26) : bits .or .u64 (b : Int) ((x * 2 ^ k : Nat) : Int) = ((b + x * 2 ^ k : Nat) : Int) := by
  have hp : 2 ^ k ≤ 2 ^ 25 := Nat.pow_le_pow_right (by decide) (by omega)
  have hx2 : x * 2 ^ k ≤ 1 * 2 ^ k := Nat.mul_le_mul_right _ hx
  rw [show (2 : Nat) ^ 25 = 33554432 from rfl] at hp
  have ho : b ||| x * 2 ^ k = b + x * 2 ^ k := by rw [Nat.or_comm, nat_join k (x * 2 ^ k) b (Nat.mul_mod_left _ _) hb, Nat.add_comm]
  show IntKind.u64.wrap ((BitVec.ofInt 64 (b : Int) ||| BitVec.ofInt 64 ((x * 2 ^ k : Nat) : Int)).toNat : Int) = _
  rw [BitVec.toNat_or, ofInt_u64 b (by omega), ofInt_u64 (x * 2 ^ k) (by omega), ho]
  show _ % 18446744073709551616 = _
  omega
theorem and8 (x y : Nat) (hx : x < 256) (hy : y < 256) : bits .and .u8 (x : Int) (y : Int) = ((x &&& y : Nat) : Int) := by
  have h : x &&& y < 2 ^ 8 := Nat.and_lt_two_pow x (by omega)
  show IntKind.u8.wrap ((BitVec.ofInt 8 (x : Int) &&& BitVec.ofInt 8 (y : Int)).toNat : Int) = _
  rw [BitVec.toNat_and, BitVec.toNat_ofInt, BitVec.toNat_ofInt, show ((x : Int) % ((2 ^ 8 : Nat) : Int)).toNat = x by omega, show ((y : Int) % ((2 ^ 8 : Nat) : Int)).toNat = y by omega]
  show ((x &&& y : Nat) : Int) % 256 = _
  omega
theorem bit8 (x r : Nat) (hx : x < 256) : bits .and .u8 ((x : Int) / 2 ^ r) 1 = ((x / 2 ^ r % 2 : Nat) : Int) := by
  have h := and8 (x / 2 ^ r) 1 (Nat.lt_of_le_of_lt (Nat.div_le_self _ _) hx) (by decide)
  rw [show (1 : Nat) = 2 ^ 1 - 1 from rfl, Nat.and_two_pow_sub_one_eq_mod] at h
  rw [Int.natCast_ediv, Int.natCast_pow] at h
  exact h
theorem maskB_lt (i : Nat) : maskB i < 256 := by
  by_cases h : i < 16
  · have := Aes.lt256s (P := fun i => decide (maskB i < 256)) (by decide +kernel) i (by omega)
    simpa using this
  · show maskL.getD i 0 < 256
    rw [List.getD_eq_getElem?_getD, List.getElem?_eq_none (by simp only [maskL, List.length_cons, List.length_nil]; omega)]
    decide
theorem or_at (b R : Nat) (hb : b < 2 ^ R) (hR : R < 26) : ∃ T : Nat, IntKind.u64.wrap (2 ^ R) = (T : Int) ∧ bits .or .u64 (b : Int) (T : Int) = ((b + 1 * 2 ^ R : Nat) : Int) := by
  refine ⟨1 * 2 ^ R, ?_, or64 b 1 R hb (by decide) hR⟩
  have hp : 2 ^ R ≤ 2 ^ 25 := Nat.pow_le_pow_right (by decide) (by omega)
  rw [show (2 : Nat) ^ 25 = 33554432 from rfl] at hp
  show (2 ^ R : Int) % 18446744073709551616 = _
  rw [show (2 ^ R : Int) = ((2 ^ R : Nat) : Int) by rw [Int.natCast_pow]; rfl]
  omega
theorem min2 {P : Program} (W : World) (ts : Array TypeId) (t : TypeId) (a b : Nat) : (Builtin.min_ ts t #[.int .i64 (a : Int), .int .i64 (b : Int)]).run P W = .ok (.int .i64 ((min a b : Nat) : Int)) W := by
  have h2 : ∀ x y : Nat, (Builtin.min2 (.int .i64 (x : Int)) (.int .i64 (y : Int))).run P W = .ok (.int .i64 ((min x y : Nat) : Int)) W := fun x y => by
    have e : (if (y : Int) < (x : Int) then (y : Int) else (x : Int)) = ((min x y : Nat) : Int) := by split <;> omega
    show (pure (Value.int .i64 (if (y : Int) < (x : Int) then (y : Int) else (x : Int))) : Sem Value).run P W = _
    rw [e]; rfl
  simp only [Builtin.min_, List.foldlM, Sem.run_bind, h2, Result.andThen_ok]
  rfl
theorem meas16 (n a : Nat) (h : a < n) : n + 16 - (intOf (.int .i64 ((a : Int) + 16))).toNat < n + 16 - (intOf (.int .i64 (a : Int))).toNat := by
  show n + 16 - ((a : Int) + 16).toNat < n + 16 - ((a : Int)).toNat
  omega
/-- A block's bits, the one behind its last byte among them. -/
def bitF (s : ByteArray) (k j : Nat) : Nat := if j < 8 * blkL s k then bitB (blkB s k) j else 1
theorem bitF_le (s : ByteArray) (k j : Nat) : bitF s k j ≤ 1 := by unfold bitF; split; exact bitB_le _ _; exact Nat.le_refl _
theorem bN_congr {f g : Nat → Nat} (n : Nat) (h : ∀ i, i < n → f i = g i) : bN f n = bN g n := by
  induction n with
  | zero => rfl
  | succ n ih => show bN f n + f n * 2 ^ n = bN g n + g n * 2 ^ n; rw [ih fun i hi => h i (by omega), h n (by omega)]
theorem bitF_all (s : ByteArray) (k : Nat) : bN (bitF s k) (8 * blkL s k + 1) = blkN s k := by
  show bN (bitF s k) (8 * blkL s k) + bitF s k (8 * blkL s k) * 2 ^ (8 * blkL s k) = _
  rw [bN_congr (f := bitF s k) (g := bitB (blkB s k)) _ fun i hi => if_pos hi, bits_bytes (blkB_lt s k), show bitF s k (8 * blkL s k) = 1 from if_neg (by omega), Nat.one_mul, Nat.pow_mul]
  rfl
/-- Limbs and a block's limbs, the first n of them added. -/
def plusL (h l : Nat → Nat) (n i : Nat) : Nat := if i < n then h i + l i else h i
theorem plusL_succ (h l : Nat → Nat) (n i : Nat) : (if i = n then h n + l n else plusL h l n i) = plusL h l (n + 1) i := by
  unfold plusL
  by_cases e : i = n
  · subst e; rw [if_pos rfl, if_pos (Nat.lt_succ_self _)]
  · rw [if_neg e]
    by_cases h2 : i < n
    · rw [if_pos h2, if_pos (by omega)]
    · rw [if_neg h2, if_neg (by omega)]
theorem plusL_at (h l : Nat → Nat) (n : Nat) : plusL h l n n = h n := if_neg (by omega)
def lmV (d : Nat → Nat) : List Value := (lmL d).map fun x => .int .u64 (x : Nat)
theorem lmV_arr (d : Nat → Nat) : (lmV d).toArray = lmA d := rfl
theorem RQ.range {w : World} {g : Nat} {d : Nat → Nat} (h : RQ w g d) : w.rangeAt g 0 (lmV d) := fun j v hv => by
  have hj : j < 5 := (List.getElem?_eq_some_iff.1 hv).1
  rw [Nat.zero_add, World.rowIs.cell h hj, ← lmA_get d j hj, ← lmV_arr, List.getElem?_toArray]
  exact hv
theorem bits0 (f : Nat → Nat) (i : Nat) : (0 : Nat) = lmb (bN f 0) i := by
  show 0 = 0 / 2 ^ (26 * i) % 67108864
  rw [Nat.zero_div]
end Go.Proofs.Pol
/-
  The document's own answer: Poly, texts filled up, the tag of a sealed text.
-/
namespace Go.Proofs.Pol
open Go.RowKit
open Go.Proofs.Aes (byt byt_lt get_byt)
open Go.Proofs.Cha (chaS chaS_size strS strS_size)
/-- The tag of a sealed text. -/
def pTagS (key nonce aad c : ByteArray) : ByteArray := macS ((chaS key 0 nonce).extract 0 32) (allS aad c)
theorem pTagS_size (key nonce aad c : ByteArray) : (pTagS key nonce aad c).size = 16 := macS_size _ _
end Go.Proofs.Pol
/-
  The document's own answer: ChaCha20-Poly1305, Seal and Open at every input.
-/
namespace Go.Proofs.Pol
open Go.RowKit
open Go.Proofs.Aes (byt byt_lt get_byt)
open Go.Proofs.Cha (chaS chaS_size strS strS_size)
/-- P7.2's form. -/
def aeOk (key nonce aad : ByteArray) : Bool := decide (key.size = 32) && (decide (nonce.size = 12) && decide (aad.size ≤ 65536))
def sealOk (key nonce aad s : ByteArray) : Bool := aeOk key nonce aad && decide (s.size ≤ 65536)
def sealT (key nonce aad s : ByteArray) : ByteArray := strS key 1 nonce s ++ pTagS key nonce aad (strS key 1 nonce s)
def psS (key nonce aad s : ByteArray) : ByteArray := bif sealOk key nonce aad s then sealT key nonce aad s else ⟨#[]⟩
def psE (key nonce aad s : ByteArray) : Int := bif sealOk key nonce aad s then 0 else 700
/-- Are the last sixteen bytes the tag of those ahead? -/
def pTagOk (key nonce aad s : ByteArray) (k : Nat) : Bool := (pTagS key nonce aad (s.extract 0 k)).toList == (s.extract k (k + 16)).toList
def openOk (key nonce aad s : ByteArray) : Bool := aeOk key nonce aad && ((decide (16 ≤ s.size) && decide (s.size ≤ 65552)) && pTagOk key nonce aad s (s.size - 16))
def poS (key nonce aad s : ByteArray) : ByteArray := bif openOk key nonce aad s then strS key 1 nonce (s.extract 0 (s.size - 16)) else ⟨#[]⟩
def poE (key nonce aad s : ByteArray) : Int := bif openOk key nonce aad s then 0 else 700
theorem aeOk_iff (key nonce aad : ByteArray) : aeOk key nonce aad = true ↔ key.size = 32 ∧ nonce.size = 12 ∧ aad.size ≤ 65536 := by unfold aeOk; simp
theorem sealOk_iff (key nonce aad s : ByteArray) : sealOk key nonce aad s = true ↔ (key.size = 32 ∧ nonce.size = 12 ∧ aad.size ≤ 65536) ∧ s.size ≤ 65536 := by unfold sealOk; rw [Bool.and_eq_true, aeOk_iff, decide_eq_true_iff]
theorem same_iff (a b : ByteArray) : (a.toList == b.toList) = true ↔ a = b := by
  rw [beq_iff_eq, ByteArray.toList_eq, ByteArray.toList_eq]
  exact ⟨fun h => ByteArray.ext (Array.toList_inj.1 h), fun h => by rw [h]⟩
end Go.Proofs.Pol
/-
  GHASH's product as plain functions on natural numbers, of no program.
-/
namespace Go.Proofs.Gcm
open Go.RowKit
/-- What a product's loop holds: a factor in two words, the other one, the sum. -/
structure TS where
  a : Nat
  b : Nat
  c : Nat
  d : Nat
  x : Nat
  y : Nat
/-- The bit that round i looks at. -/
def tBit (i : Nat) (s : TS) : Nat := if 63 < i then s.b / 9223372036854775808 else s.a / 9223372036854775808
def tStep (i : Nat) (s : TS) : TS where
  a := if 63 < i then s.a else s.a * 2 % 18446744073709551616
  b := if 63 < i then s.b * 2 % 18446744073709551616 else s.b
  c := if s.d % 2 = 1 then (s.c / 2) ^^^ 16212958658533785600 else s.c / 2
  d := s.d / 2 + s.c % 2 * 9223372036854775808
  x := if tBit i s = 1 then s.x ^^^ s.c else s.x
  y := if tBit i s = 1 then s.y ^^^ s.d else s.y
def tRun (s : TS) : Nat → TS
  | 0 => s
  | i + 1 => tStep i (tRun s i)
def Lt6 (s : TS) : Prop := s.a < 18446744073709551616 ∧ s.b < 18446744073709551616 ∧ s.c < 18446744073709551616 ∧ s.d < 18446744073709551616 ∧ s.x < 18446744073709551616 ∧ s.y < 18446744073709551616
theorem xor64_lt {a b : Nat} (ha : a < 18446744073709551616) (hb : b < 18446744073709551616) : a ^^^ b < 18446744073709551616 := Nat.xor_lt_two_pow (n := 64) ha hb
theorem tStep_lt (i : Nat) (s : TS) (h : Lt6 s) : Lt6 (tStep i s) := by
  obtain ⟨h1, h2, h3, h4, h5, h6⟩ := h
  refine ⟨?_, ?_, ?_, ?_, ?_, ?_⟩
  · show (if 63 < i then s.a else s.a * 2 % 18446744073709551616) < _
    split <;> omega
  · show (if 63 < i then s.b * 2 % 18446744073709551616 else s.b) < _
    split <;> omega
  · show (if s.d % 2 = 1 then (s.c / 2) ^^^ 16212958658533785600 else s.c / 2) < _
    split
    · exact xor64_lt (by omega) (by decide)
    · omega
  · show s.d / 2 + s.c % 2 * 9223372036854775808 < _
    omega
  · show (if tBit i s = 1 then s.x ^^^ s.c else s.x) < _
    split
    · exact xor64_lt h5 h3
    · exact h5
  · show (if tBit i s = 1 then s.y ^^^ s.d else s.y) < _
    split
    · exact xor64_lt h6 h4
    · exact h6
theorem tRun_lt (s : TS) (h : Lt6 s) (i : Nat) : Lt6 (tRun s i) := by
  induction i with
  | zero => exact h
  | succ i ih => exact tStep_lt i _ ih
theorem or_shift (c d : Nat) (hd : d < 18446744073709551616) :
    bits .or .u64 ((d : Int) / 2) ((c : Int) * 9223372036854775808 % 18446744073709551616) = ((d / 2 + c % 2 * 9223372036854775808 : Nat) : Int) := by
  have e1 : (d : Int) / 2 = ((d / 2 : Nat) : Int) := by omega
  have e2 : (c : Int) * 9223372036854775808 % 18446744073709551616 = ((c % 2 * 9223372036854775808 : Nat) : Int) := by omega
  rw [e1, e2, u64_or_nat _ _ (by omega) (by omega), Nat.or_comm, nat_join 63 (c % 2 * 9223372036854775808) (d / 2) (by omega) (by omega), Nat.add_comm]
theorem and_one (d : Nat) (hd : d < 18446744073709551616) : bits .and .u64 (d : Int) 1 = ((d % 2 : Nat) : Int) := by
  have h := u64_and_nat d 1 hd (by decide)
  rw [Nat.and_one_is_mod] at h
  exact h
/-- A product in GHASH's field. -/
def mulX (a b c d : Nat) : Nat := (tRun ⟨a, b, c, d, 0, 0⟩ 128).x
def mulY (a b c d : Nat) : Nat := (tRun ⟨a, b, c, d, 0, 0⟩ 128).y
end Go.Proofs.Gcm
/-
  The document's own answer: GHASH's product.
-/
namespace Go.Proofs.Gcm
open Go.RowKit
theorem int64 {a b : Int} (h : a = b) : Value.int .u64 a = .int .u64 b := by rw [h]
theorem wrap_two (z : Nat) : IntKind.u64.wrap ((z : Int) * 2) = ((z * 2 % 18446744073709551616 : Nat) : Int) := by
  show (z : Int) * 2 % 18446744073709551616 = _
  omega
theorem half_xor (c : Nat) (hc : c < 18446744073709551616) : bits .xor .u64 ((c : Int) / 2) 16212958658533785600 = (((c / 2) ^^^ 16212958658533785600 : Nat) : Int) := by
  rw [show (c : Int) / 2 = ((c / 2 : Nat) : Int) by omega]
  exact u64_xor_nat (c / 2) 16212958658533785600 (by omega) (by decide)
theorem half (c : Nat) : (c : Int) / 2 = ((c / 2 : Nat) : Int) := by omega
theorem meas (K j : Nat) (h : j < K) : K - (intOf (.int .i64 ((j : Int) + 1))).toNat < K - (intOf (.int .i64 (j : Int))).toNat := by
  show K - ((j : Int) + 1).toNat < K - (j : Int).toNat
  omega
end Go.Proofs.Gcm
/-
  The document's own answer: double, one block by a schedule.
-/
namespace Go.Proofs.Aes
open Go.RowKit
theorem retI {k : IntKind} {a b : Int} (h : a = b) : Ending.returned (.int k a) = .returned (.int k b) := by rw [h]
end Go.Proofs.Aes
