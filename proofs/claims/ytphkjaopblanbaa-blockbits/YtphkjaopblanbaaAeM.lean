/-
  Small forms for the walks of halberdlaw4's laws: masks, rows of noughts, texts out of rows of bytes.
-/
import Derived.Test.YtphkjaopblanbaaAeL
import Derived.Test.YtphkjaopblanbaaImRb
namespace Go.Proofs.Ae
open Go.RowKit
open Go.Proofs.Aes
open Go.Proofs.Sha (rowIs_of)
theorem and_of (z : Int) (m : Nat) (hm : m < 9223372036854775808) : bits .and .i64 z (m : Int) = (((z % 18446744073709551616).toNat &&& m : Nat) : Int) := by
  have hx : (z % 18446744073709551616).toNat &&& m ≤ m := Nat.and_le_right
  show IntKind.i64.wrap ((BitVec.ofInt 64 z &&& BitVec.ofInt 64 (m : Int)).toNat : Int) = _
  rw [BitVec.toNat_and, ofInt_u64 m (by omega), BitVec.toNat_ofInt, show ((2 ^ 64 : Nat) : Int) = 18446744073709551616 from rfl]
  exact IntWalk.i64_in _ (by omega)
theorem maskN63 (z : Int) : ∃ n : Nat, n ≤ 63 ∧ bits .and .i64 z 63 = (n : Int) := ⟨_, Nat.and_le_right, and_of z 63 (by omega)⟩
theorem maskN31 (z : Int) : ∃ n : Nat, n ≤ 31 ∧ bits .and .i64 z 31 = (n : Int) := ⟨_, Nat.and_le_right, and_of z 31 (by omega)⟩
theorem zeros (m : Nat) (hm : m ≤ 1000000) : ∃ (M : Array Value), M.size = m ∧ (∀ i, i < m → M[i]? = some (.int .u8 0)) ∧
    (∀ W : World, (Instr.makeSlice 30 (.int .i64 (m : Int)) (.int .i64 (m : Int))).run Try.prog W = .ok (.slice (some ⟨W.heap.size, 0, none⟩) m m) (W.alloc (.cells M 5))) := by
  obtain ⟨i0, hi, hz0, hz1, hz2⟩ := info_parts (P := Try.prog) (e := 5) (z := .int .u8 0) (size := 1) (bytes := 1) (by kernel_rfl)
  refine ⟨madeCells (Value.int .u8 0).cells (m * i0.size), by rw [size_madeCells, hz1]; simp, fun i hi' => ?_, fun W => ?_⟩
  · rw [hz1]
    simp [madeCells, hi', Value.cells, Nat.mod_one]
  · have h := run_make (P := Try.prog) W 30 5 i0 (.int .u8 0) Try.underlying30 hi hz0 .i64 .i64 (m : Int) (m : Int) (by omega) (by omega) (by rw [hz2]; omega) (by omega)
    rw [Int.toNat_natCast] at h
    exact h
/-- A row of bytes in memory. -/
def RowB (wx : World) (g m : Nat) (X : Nat → Nat) : Prop := wx.rowIs g 5 m (fun i => .int .u8 (X i : Nat))
theorem RowB.set {wx : World} {g m : Nat} {X : Nat → Nat} (r : RowB wx g m X) (j x : Nat) : RowB (wx.setCell ⟨g, j, none⟩ (.int .u8 x)) g m (fun i => if i = j then x else X i) :=
  World.rowIs.congr (World.rowIs.set r j (.int .u8 x)) fun i _ => by simp only []; split <;> rfl
theorem RowB.drew {wx : World} {g m : Nat} {X : Nat → Nat} (r : RowB wx g m X) : RowB wx.drew g m X := World.rowIs.drew r
theorem RowB.on {u v : World} {g m : Nat} {X : Nat → Nat} (r : RowB u g m X) (hb : Below u.heap.size u v) : RowB v g m X := World.rowIs.of_block r (hb.block g (World.rowIs.lt r))
theorem rowB_new (w : World) (M : Array Value) (m : Nat) (hs : M.size = m) (hM : ∀ i, i < m → M[i]? = some (.int .u8 0)) : RowB (w.alloc (.cells M 5)) w.heap.size m (fun _ => 0) := rowIs_of w M 5 m _ hs hM
/-- The n bytes from off on as a text. -/
def pieceS (X : Nat → Nat) (off n : Nat) : ByteArray := strOfNums ((List.range n).map fun t => (X (off + t) : Int))
theorem pieceS_size (X : Nat → Nat) (off n : Nat) : (pieceS X off n).size = n := by simp [pieceS, strOfNums_size]
theorem RowB.text {u : World} {g m : Nat} {X : Nat → Nat} (r : RowB u g m X) (off n c : Nat) (h : off + n ≤ m) :
    (Go.convert 30 9 (.slice (some ⟨g, off, none⟩) n c)).run Try.prog u = .ok (.string (pieceS X off n)) u := by
  rw [run_convert_bytes_arg (P := Try.prog) u 30 5 Try.underlying30 Try.underlying5 g off n c ((List.range n).map fun t => (X (off + t) : Int)) (by simp) (fun i hi => by
    rw [World.rowIs.cell r (i := off + i) (by omega)]
    simp [List.getD_eq_getElem?_getD, List.getElem?_range hi]) 9 Try.underlying9]
  rfl
theorem u8_some (a b : Int) : ∃ v : Nat, v < 256 ∧ bits .xor .u8 a b = (v : Int) := by
  refine ⟨(bits .xor .u8 a b).toNat, ?_, ?_⟩
  · show ((((BitVec.ofInt 8 a ^^^ BitVec.ofInt 8 b).toNat : Int) % 256).toNat) < 256; omega
  · show (((BitVec.ofInt 8 a ^^^ BitVec.ofInt 8 b).toNat : Int) % 256) = (((((BitVec.ofInt 8 a ^^^ BitVec.ofInt 8 b).toNat : Int) % 256).toNat : Nat) : Int); omega
/-- A row of bytes of which a key and a block are read. -/
def HeldB (w u : World) (g z m : Nat) (X : Nat → Nat) : Prop :=
  (Go.convert 30 9 (.slice (some ⟨g, 0, none⟩) z m)).run Try.prog u = .ok (.string (pieceS X 0 z)) u ∧ (Go.convert 30 9 (.slice (some ⟨g, z, none⟩) 16 16)).run Try.prog u = .ok (.string (pieceS X z 16)) u ∧ RowB u g m X ∧ Below w.heap.size w u
theorem heldB {w u : World} {g z m : Nat} {X : Nat → Nat} (hm : m = z + 16) (hr : RowB u g m X) (hb : Below w.heap.size w u) : HeldB w u g z m X :=
  ⟨hr.text 0 z m (by omega), hr.text z 16 16 (by omega), hr, hb⟩
theorem aes_fine (K S : ByteArray) (h : K.size = 16 ∨ K.size = 32) (hs : S.size = 16) : aesS K S = encS K S ∧ aesE K S = 0 := by
  have ok : aesOk K S = true := by
    unfold aesOk
    rcases h with h | h <;> simp [h, hs]
  unfold aesS aesE; rw [ok]; exact ⟨rfl, rfl⟩
theorem block_held {w u : World} {g z m : Nat} {X : Nat → Nat} (hm : m = z + 16) (hz : z = 16 ∨ z = 32) (h : HeldB w u g z m X) :
    Calls Try.prog 6 #[.string (pieceS X 0 z), .string (pieceS X z 16)] u fun e u' => e = .returned (.tuple #[.string (encS (pieceS X 0 z) (pieceS X z 16)), .int .i64 0]) ∧ HeldB w u' g z m X := by
  have hf := aes_fine (pieceS X 0 z) (pieceS X z 16) (by rw [pieceS_size]; exact hz) (pieceS_size _ _ _)
  have hb := block_any (pieceS X 0 z) (pieceS X z 16) u
  rw [hf.1, hf.2] at hb
  exact hb.mono fun _ _ ⟨h1, h2⟩ => ⟨h1, heldB hm (h.2.2.1.on h2) (go_on h.2.2.2 h2)⟩
theorem rblock_held {w u : World} {g z m : Nat} {X : Nat → Nat} (hm : m = z + 16) (hz : z = 16 ∨ z = 32) (h : HeldB w u g z m X) :
    Calls Try.prog 7 #[.string (pieceS X 0 z), .string (pieceS X z 16)] u fun e u' => e = .returned (.tuple #[.string (encS (pieceS X 0 z) (pieceS X z 16)), .int .i64 0]) ∧ HeldB w u' g z m X := by
  have hf := aes_fine (pieceS X 0 z) (pieceS X z 16) (by rw [pieceS_size]; exact hz) (pieceS_size _ _ _)
  have hb := rblock_any (pieceS X 0 z) (pieceS X z 16) u
  rw [hf.1, hf.2] at hb
  exact hb.mono fun _ _ ⟨h1, h2⟩ => ⟨h1, heldB hm (h.2.2.1.on h2) (go_on h.2.2.2 h2)⟩
/-- A row's noughts as a text. -/
theorem nought_text (x : Nat) : ∃ K : ByteArray, K.size = x ∧ ∀ (W : World) (g : Nat), RowB W g x (fun _ => 0) → (Go.convert 30 9 (.slice (some ⟨g, 0, none⟩) x x)).run Try.prog W = .ok (.string K) W :=
  ⟨pieceS (fun _ => 0) 0 x, pieceS_size _ _ _, fun _ _ r => r.text 0 x x (by omega)⟩
/-- An operation that yields the same in every world, taken first, its destination written out. -/
theorem take_to {P : Program} {md : Region.Mode} {ops : Array Oper} {Q : Exit → Act → World → Prop} {i : Nat} {oi : Oper} {fuel : Nat} {listed : Array Bool} {a : Act} {w : World} (di : Option Tmp) (v : Value) (hi : ops[i]? = some oi) (hdi : oi.dst = di)
    (hs : Region.noSelect ops = true) (hf : Region.free md ops listed i = true) (hr : (Region.ready md ops listed).contains i = true)
    (hQ : ∀ c a w, Q (.panic c) (a.put di v) w → Q (.panic c) a w) (hy : Yields P ops oi v a)
    (h : wpAny P md ops Q fuel (listed.setIfInBounds i true) (a.put di v) w) : wpAny P md ops Q (fuel + 1) listed a w := by
  subst hdi
  exact wpAny_take hi hs hf hr hQ hy h
/-- Several ways through a region that come together. -/
theorem meet {P : Program} {md : Region.Mode} {ops : Array Oper} {Q : Exit → Act → World → Prop} {n : Nat} {listed : Array Bool} {a : Act} {w : World}
    (F : Value → Value → Act) (L : Array Bool) (f : Nat) (C : World → Prop) (key : ∀ p q W, C W → wpAny P md ops Q f L (F p q) W)
    (h : (∀ p q W, C W → wpAny P md ops Q f L (F p q) W) → wpAny P md ops Q n listed a w) : wpAny P md ops Q n listed a w := h key
end Go.Proofs.Ae
