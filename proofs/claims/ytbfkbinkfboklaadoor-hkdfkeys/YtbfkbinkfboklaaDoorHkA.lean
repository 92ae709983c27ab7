/-
  The document's own answer: keys out of keys. xored, may.
-/
import Derived.Test.YtbfkbinkfboklaaDoorShaF
namespace Go.Proofs.Hk
open Go.RowKit Go.Proofs.Be Go.Proofs.Sha
def xorN (s : ByteArray) (b t : Nat) : Nat := if t < s.size then (byt s t ^^^ b) else b
def xorS (s : ByteArray) (b m : Nat) : ByteArray := strOfNums ((List.range m).map fun t => (xorN s b t : Int))
theorem xorS_size (s : ByteArray) (b m : Nat) : (xorS s b m).size = m := by simp [xorS, strOfNums_size]
theorem u8_xor (x y : Nat) (hx : x < 256) (hy : y < 256) : bits .xor .u8 (x : Int) (y : Int) = ((x ^^^ y : Nat) : Int) := by
  have h : x ^^^ y < 2 ^ 8 := Nat.xor_lt_two_pow (by omega) (by omega)
  show IntKind.u8.wrap ((BitVec.ofInt 8 (x : Int) ^^^ BitVec.ofInt 8 (y : Int)).toNat : Int) = _
  rw [BitVec.toNat_xor, BitVec.toNat_ofInt, BitVec.toNat_ofInt, show ((x : Int) % ((2 ^ 8 : Nat) : Int)).toNat = x by omega, show ((y : Int) % ((2 ^ 8 : Nat) : Int)).toNat = y by omega]
  show ((x ^^^ y : Nat) : Int) % 256 = _
  omega
/-- The bytes under way. -/
def RowX (w wx : World) (m : Nat) (X : Nat → Nat) : Prop := wx.rowIs w.heap.size 5 m (fun i => .int .u8 (X i : Nat))
theorem RowX.set {w wx : World} {m : Nat} {X : Nat → Nat} (r : RowX w wx m X) (j x : Nat) : RowX w (wx.setCell ⟨w.heap.size, j, none⟩ (.int .u8 x)) m (fun i => if i = j then x else X i) :=
  World.rowIs.congr (World.rowIs.set r j (.int .u8 x)) fun i _ => by simp only [eq_comm (a := i)]; split <;> rfl
set_option maxHeartbeats 1000000 in
set_option maxRecDepth 100000 in
theorem xored_any (s : ByteArray) (b m : Nat) (w : World) (hb : b < 256) (hm : m ≤ 1000000) :
    Calls Tryd.prog 33 #[.string s, .int .u8 b, .int .i64 m] w fun e w' => e = .returned (.string (xorS s b m)) ∧ Below w.heap.size w w' := by
  have HB := Lib.hid hb
  clear hb
  obtain ⟨M, hM, hMc, hmk⟩ := zeros m hm
  have R0 : RowX w (w.alloc (.cells M 5)) m (fun _ => 0) := rowIs_of w M 5 m _ hM hMc
  have B0 : Below w.heap.size w (w.alloc (.cells M 5)) := (Below.refl _ w).alloc (Nat.le_refl _) _
  clear hM hMc
  go_enter Tryd.func33, Tryd.ntmps33
  go_wp2_with (fail)
  clear hmk
  go_loopw [8] (fun i wx => ∃ (j : Nat) (X : Nat → Nat), j ≤ m ∧ i = .int .i64 j ∧ Hid (∀ t, t < j → X t = xorN s b t) ∧ RowX w wx m X ∧ Below w.heap.size w wx) (fun i _ => m - (intOf i).toNat)
  case atStart => exact ⟨0, fun _ => 0, by omega, rfl, fun t ht => absurd ht (Nat.not_lt_zero t), R0, B0⟩
  case round =>
    clear R0 B0
    obtain ⟨j, X, hj, rfl, HX, HR, hbl⟩ := hrel
    by_cases hlt : j < m
    · have hc := World.rowIs.cell HR (i := j) hlt
      have hf := World.rowIs.frozen HR j
      have jb' : (j : Int) < m := by omega
      by_cases hl : j < s.size
      · have hl' : (j : Int) < s.size := by omega
        go_wp2_with (fail)
        simp only [get_byt, u8_xor _ _ (byt_lt s j) HB.out]
        refine ⟨⟨j + 1, _, by omega, by go_num, fun t ht => ?_, (HR.set j b).set j (byt s j ^^^ b), (hbl.setCell (Nat.le_refl _) _).setCell (Nat.le_refl _) _⟩, by simp [intOf]; omega⟩
        show (if t = j then (byt s j ^^^ b) else if t = j then b else X t) = xorN s b t
        by_cases h : t = j
        · subst h; simp [xorN, hl]
        · simp only [if_neg h]; exact HX.out t (by omega)
      · have hl' : ¬ (j : Int) < s.size := by omega
        go_wp2_with (fail)
        refine ⟨⟨j + 1, _, by omega, by go_num, fun t ht => ?_, HR.set j b, hbl.setCell (Nat.le_refl _) _⟩, by simp [intOf]; omega⟩
        show (if t = j then b else X t) = xorN s b t
        by_cases h : t = j
        · subst h; simp [xorN, hl]
        · simp only [if_neg h]; exact HX.out t (by omega)
    · go_wp2_with (fail)
      rw [run_convert_bytes_arg (P := Tryd.prog) _ 35 5 Tryd.underlying35 Tryd.underlying5 w.heap.size 0 m m ((List.range m).map fun t => (xorN s b t : Int)) (by simp) (fun i hi => by
        rw [Nat.zero_add, World.rowIs.cell HR (i := i) hi, HX.out i (by omega)]
        simp [List.getD_eq_getElem?_getD, List.getElem?_range hi]) 9 Tryd.underlying9]
      go_wp2_with (fail)
      go_ret
      exact ⟨rfl, hbl⟩
theorem may_any (bits : Int) (w : World) :
    Calls Tryd.prog 20 #[.int .i64 bits] w fun e w' => e = .returned (.bool (may bits)) ∧ w = w' := by
  by_cases h : bits = 256
  · subst h
    go_enter Tryd.func20, Tryd.ntmps20
    go_wp2
    go_ret
    exact ⟨rfl, rfl⟩
  · have b1 : (bits == 256) = false := by simpa using h
    have hm : may bits = (bits == 384) := Bool.eq_iff_iff.mpr (by simp [may, h])
    rw [hm]
    go_enter Tryd.func20, Tryd.ntmps20
    go_wp2
    go_ret
    exact ⟨rfl, rfl⟩
end Go.Proofs.Hk
