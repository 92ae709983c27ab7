/-
  The document's own answer: Sum of 256 bits.
-/
import Derived.Test.YtbfkbinkfboklaaDoorBeB
import Derived.Test.YtbfkbinkfboklaaDoorShaB
namespace Go.Proofs.Sha
open Go.RowKit Go.Proofs.Be

def pad256 (s : ByteArray) : ByteArray := s ++ ⟨#[128]⟩ ++ zS ((64 - (s.size + 9) % 64) % 64 + 0) ++ beS (8 * s.size) 8
theorem pad256_size (s : ByteArray) : (pad256 s).size = s.size + 9 + (64 - (s.size + 9) % 64) % 64 := by
  unfold pad256
  rw [ByteArray.size_append, ByteArray.size_append, ByteArray.size_append, zS_size, beS_size]
  show s.size + 1 + _ + 8 = _
  omega
theorem pad256_mod (s : ByteArray) : (pad256 s).size % 64 = 0 := by rw [pad256_size]; omega
theorem pad256_le (s : ByteArray) : (pad256 s).size ≤ s.size + 72 := by rw [pad256_size]; omega
def iv256 : List Nat := [0x6a09e667, 0xbb67ae85, 0x3c6ef372, 0xa54ff53a, 0x510e527f, 0x9b05688c, 0x1f83d9ab, 0x5be0cd19]
/-- The state behind n blocks of p. -/
def blks (p : ByteArray) (v : List Nat) : Nat → List Nat
  | 0 => v
  | n + 1 => blk (p.extract (64 * n) (64 * n + 64)) (blks p v n)
def st256 (s : ByteArray) : List Nat := blks (pad256 s) iv256 ((pad256 s).size / 64)
def dig256 (s : ByteArray) : ByteArray := ⟨((st256 s).flatMap fun x => beL x 4).toArray⟩
/-- The state row of Sum. -/
def RowS (w wr : World) (a b c d e f g h : Nat) : Prop := wr.rowIs w.heap.size 64 8 (fun i => .int .u32 (hOf a b c d e f g h i : Nat))
theorem RowS.below {w wr u : World} {a b c d e f g h : Nat} (r : RowS w wr a b c d e f g h) (hb : Below wr.heap.size wr u) : RowS w u a b c d e f g h :=
  World.rowIs.of_block r (hb.block _ (World.rowIs.lt r))
theorem RowS.set8 {w wr : World} {a b c d e f g h : Nat} (r : RowS w wr a b c d e f g h) (x0 x1 x2 x3 x4 x5 x6 x7 : Nat) :
    RowS w ((((((((wr.setCell ⟨w.heap.size, 0, none⟩ (.int .u32 x0)).setCell ⟨w.heap.size, 1, none⟩ (.int .u32 x1)).setCell ⟨w.heap.size, 2, none⟩ (.int .u32 x2)).setCell ⟨w.heap.size, 3, none⟩ (.int .u32 x3)).setCell ⟨w.heap.size, 4, none⟩ (.int .u32 x4)).setCell ⟨w.heap.size, 5, none⟩ (.int .u32 x5)).setCell ⟨w.heap.size, 6, none⟩ (.int .u32 x6)).setCell ⟨w.heap.size, 7, none⟩ (.int .u32 x7)) x0 x1 x2 x3 x4 x5 x6 x7 :=
  World.rowIs.congr ((((((((World.rowIs.set r 0 (.int .u32 x0)).set 1 (.int .u32 x1)).set 2 (.int .u32 x2)).set 3 (.int .u32 x3)).set 4 (.int .u32 x4)).set 5 (.int .u32 x5)).set 6 (.int .u32 x6)).set 7 (.int .u32 x7)) (lt8' rfl rfl rfl rfl rfl rfl rfl rfl)
theorem below_set8 {w wr : World} (hb : Below w.heap.size w wr) (x0 x1 x2 x3 x4 x5 x6 x7 : Value) :
    Below w.heap.size w ((((((((wr.setCell ⟨w.heap.size, 0, none⟩ x0).setCell ⟨w.heap.size, 1, none⟩ x1).setCell ⟨w.heap.size, 2, none⟩ x2).setCell ⟨w.heap.size, 3, none⟩ x3).setCell ⟨w.heap.size, 4, none⟩ x4).setCell ⟨w.heap.size, 5, none⟩ x5).setCell ⟨w.heap.size, 6, none⟩ x6).setCell ⟨w.heap.size, 7, none⟩ x7) :=
  (((((((hb.setCell (Nat.le_refl _) _).setCell (Nat.le_refl _) _).setCell (Nat.le_refl _) _).setCell (Nat.le_refl _) _).setCell (Nat.le_refl _) _).setCell (Nat.le_refl _) _).setCell (Nat.le_refl _) _).setCell (Nat.le_refl _) _

theorem padded256 (s : ByteArray) (w : World) (hs : s.size ≤ 288230376151711744) :
    Calls Tryd.prog 36 #[.string s, .int .i64 64, .int .i64 8] w fun e w' => e = .returned (.string (pad256 s)) ∧ Below w.heap.size w w' := padded_64 s w hs
theorem hOf_lt {a b c d e f g h : Nat} (l : Lt32 a b c d e f g h) (i : Nat) (hi : i < 8) : hOf a b c d e f g h i < 4294967296 := by
  obtain ⟨la, lb, lc, ld, le, lf, lg, lh⟩ := l
  exact lt8 (P := fun i => hOf a b c d e f g h i < 4294967296) la lb lc ld le lf lg lh i hi
/-- The first n words as bytes. -/
def outL (v : Nat → Nat) : Nat → List UInt8
  | 0 => []
  | n + 1 => outL v n ++ beL (v n) 4
theorem outL_length (v : Nat → Nat) (n : Nat) : (outL v n).length = 4 * n := by
  induction n with
  | zero => rfl
  | succ n ih => simp [outL, ih, beL_length]; omega
set_option maxHeartbeats 2000000 in
set_option maxRecDepth 100000 in
theorem rsum_256 (s : ByteArray) (w : World) (hs : s.size ≤ 288230376151711744) :
    Calls Tryd.prog 27 #[.int .i64 256, .string s] w fun e w' => e = .returned (.tuple #[.string (dig256 s), .int .i64 0]) ∧ Below w.heap.size w w' := by
  have p1 := pad256_le s
  have p2 := Lib.hid (pad256_mod s)
  go_enter Tryd.func27, Tryd.ntmps27
  go_wp2_with (go_at_call 36; refine (padded256 s _ hs).mono ?_; rintro e u ⟨rfl, hbu⟩)
  have HD : Hid (dig256 s = ⟨((blks (pad256 s) iv256 ((pad256 s).size / 64)).flatMap fun x => beL x 4).toArray⟩) := rfl
  generalize pad256 s = P at p1 p2 HD ⊢
  have P3 : P.size ≤ 288230376151711816 := by omega
  clear p1
  have R0 : RowS w u 0x6a09e667 0xbb67ae85 0x3c6ef372 0xa54ff53a 0x510e527f 0x9b05688c 0x1f83d9ab 0x5be0cd19 :=
    RowS.below (rowIs_of w _ 64 8 _ rfl (lt8 rfl rfl rfl rfl rfl rfl rfl rfl)) hbu
  have B0 : Below w.heap.size w u := ((Below.refl _ w).alloc (Nat.le_refl _) _).trans (hbu.mono (by simp))
  clear hbu
  go_loopw [8] (fun i wx => ∃ (n a b c d e f g m : Nat), 64 * n ≤ P.size ∧ i = .int .i64 ((64 * n : Nat) : Int) ∧ Hid (blks P iv256 n = [a, b, c, d, e, f, g, m]) ∧ Hid (Lt32 a b c d e f g m) ∧ RowS w wx a b c d e f g m ∧ Below w.heap.size w wx) (fun i _ => P.size - (intOf i).toNat)
  case atStart => exact ⟨0, _, _, _, _, _, _, _, _, by omega, rfl, rfl, ⟨by decide, by decide, by decide, by decide, by decide, by decide, by decide, by decide⟩, R0, B0⟩
  case round =>
    clear R0 B0
    obtain ⟨n, a, b, c, d, e, f, g, m, hn, rfl, HB, HL, HR, hbl⟩ := hrel
    have hmod := p2.out
    by_cases hlt : 64 * n < P.size
    · have hq : 64 * n + 64 ≤ P.size := by omega
      clear hmod
      have v0 : wr.cell? ⟨w.heap.size, 0, none⟩ = some (.int .u32 (a : Nat)) := HR.cell (i := 0) (by omega)
      have v1 : wr.cell? ⟨w.heap.size, 1, none⟩ = some (.int .u32 (b : Nat)) := HR.cell (i := 1) (by omega)
      have v2 : wr.cell? ⟨w.heap.size, 2, none⟩ = some (.int .u32 (c : Nat)) := HR.cell (i := 2) (by omega)
      have v3 : wr.cell? ⟨w.heap.size, 3, none⟩ = some (.int .u32 (d : Nat)) := HR.cell (i := 3) (by omega)
      have v4 : wr.cell? ⟨w.heap.size, 4, none⟩ = some (.int .u32 (e : Nat)) := HR.cell (i := 4) (by omega)
      have v5 : wr.cell? ⟨w.heap.size, 5, none⟩ = some (.int .u32 (f : Nat)) := HR.cell (i := 5) (by omega)
      have v6 : wr.cell? ⟨w.heap.size, 6, none⟩ = some (.int .u32 (g : Nat)) := HR.cell (i := 6) (by omega)
      have v7 : wr.cell? ⟨w.heap.size, 7, none⟩ = some (.int .u32 (m : Nat)) := HR.cell (i := 7) (by omega)
      generalize hk : 64 * n = k at *
      have HK := Lib.hid hk
      clear hk
      have z0 : (0 : Int) ≤ (k : Int) := by omega
      have y1 : (k : Int) + 64 ≤ P.size := by omega
      have y2 : (k : Int) ≤ (k : Int) + 64 := by omega
      have y4 : (0 : Int) ≤ (k : Int) + 64 := by omega
      have y3 : ((k : Int) + 64).toNat = k + 64 := by omega
      have x1 : IntKind.i64.wrap ((k : Int) + 64) = (k : Int) + 64 := IntWalk.i64_in _ (by omega)
      go_wp2_with (fail)
      go_still_tail 6, (by kernel_rfl)
      change wpList _ _ _ _ _ wr.drew
      clear x1
      go_wp2_with (fail)
      refine (block256_any (P.extract k (k + 64)) a b c d e f g m _ (by rw [ByteArray.size_extract]; omega) HL.out).mono ?_
      rintro e' u ⟨x0, x1, x2, x3, x4, x5, x6, x7, hx, lx, rfl, hbu⟩
      have HX := Lib.hid hx
      have LX := Lib.hid lx
      clear hx lx v0 v1 v2 v3 v4 v5 v6 v7
      have HU : RowS w u a b c d e f g m := RowS.below (wr := wr.drew) HR.drew hbu
      have BU : Below w.heap.size w u := hbl.drew.trans (hbu.mono hbl.size)
      clear hbu
      have g0 : u.cell? ⟨w.heap.size, 0, none⟩ = some (.int .u32 (a : Nat)) := HU.cell (i := 0) (by omega)
      have f0 := World.rowIs.frozen HU 0
      have g1 : u.cell? ⟨w.heap.size, 1, none⟩ = some (.int .u32 (b : Nat)) := HU.cell (i := 1) (by omega)
      have f1 := World.rowIs.frozen HU 1
      have g2 : u.cell? ⟨w.heap.size, 2, none⟩ = some (.int .u32 (c : Nat)) := HU.cell (i := 2) (by omega)
      have f2 := World.rowIs.frozen HU 2
      have g3 : u.cell? ⟨w.heap.size, 3, none⟩ = some (.int .u32 (d : Nat)) := HU.cell (i := 3) (by omega)
      have f3 := World.rowIs.frozen HU 3
      have g4 : u.cell? ⟨w.heap.size, 4, none⟩ = some (.int .u32 (e : Nat)) := HU.cell (i := 4) (by omega)
      have f4 := World.rowIs.frozen HU 4
      have g5 : u.cell? ⟨w.heap.size, 5, none⟩ = some (.int .u32 (f : Nat)) := HU.cell (i := 5) (by omega)
      have f5 := World.rowIs.frozen HU 5
      have g6 : u.cell? ⟨w.heap.size, 6, none⟩ = some (.int .u32 (g : Nat)) := HU.cell (i := 6) (by omega)
      have f6 := World.rowIs.frozen HU 6
      have g7 : u.cell? ⟨w.heap.size, 7, none⟩ = some (.int .u32 (m : Nat)) := HU.cell (i := 7) (by omega)
      have f7 := World.rowIs.frozen HU 7
      go_wp2_with (fail)
      go_roundw
      case rel =>
        refine ⟨n + 1, x0, x1, x2, x3, x4, x5, x6, x7, by have := HK.out; omega, (by rw [show ((64 * (n + 1) : Nat) : Int) = (k : Int) + 64 by have := HK.out; omega]), ?_, LX, HU.set8 _ _ _ _ _ _ _ _, below_set8 BU _ _ _ _ _ _ _ _⟩
        show blk (P.extract (64 * n) (64 * n + 64)) (blks P iv256 n) = _
        rw [HB.out, HK.out]; exact HX.out
      case measure => simp [intOf]; omega
    · have hn2 : P.size / 64 = n := by omega
      have HF : Hid (dig256 s = ⟨(outL (hOf a b c d e f g m) 8).toArray⟩) := by
        show dig256 s = ⟨(outL (hOf a b c d e f g m) 8).toArray⟩
        rw [HD.out, hn2, HB.out]
        rfl
      clear hmod hn2 HD HB p2 hn
      generalize 64 * n = k at *
      go_wp2_with (fail)
      go_loopw [9, 10] (fun out i wx => ∃ (j : Nat) (S : ByteArray), j ≤ 8 ∧ i = .int .i64 j ∧ out = .string S ∧ Hid (S.data.toList = outL (hOf a b c d e f g m) j) ∧ S.size ≤ 4 * j ∧ RowS w wx a b c d e f g m ∧ Below w.heap.size w wx) (fun _ i _ => 8 - (intOf i).toNat)
      case atStart => exact ⟨0, ⟨#[]⟩, by omega, rfl, rfl, rfl, by decide, HR, hbl⟩
      case round =>
        clear HR hbl
        obtain ⟨j, S, hj, rfl, rfl, HS, hS4, HR, hbl⟩ := hrel
        by_cases hlt : j < 8
        · have cj := World.rowIs.cell HR (i := j) hlt
          obtain ⟨x, hx⟩ : ∃ x, hOf a b c d e f g m j = x := ⟨_, rfl⟩
          have hxl := hOf_lt HL.out j hlt
          rw [hx] at hxl
          simp only [hx] at cj
          have XL := Lib.hid hxl
          have HX := Lib.hid hx
          clear hxl hx
          have jb : (j : Int) < 8 := by omega
          have jn : j < 8 := hlt
          have w1 : wrap64 (x : Int) = x := by have := XL.out; unfold wrap64; omega
          go_wp2_with (fail)
          refine (be_4 x _ XL.out).mono ?_
          rintro e' u ⟨rfl, hbu⟩
          have z4 : (beS x 4).size = 4 := beS_size x 4
          go_wp2_with (fail)
          go_roundw
          case rel =>
            refine ⟨j + 1, S ++ beS x 4, by omega, by go_num, rfl, ?_, by rw [ByteArray.size_append, z4]; omega, RowS.below HR hbu, hbl.trans (hbu.mono hbl.size)⟩
            show (S ++ beS x 4).data.toList = outL (hOf a b c d e f g m) j ++ beL (hOf a b c d e f g m j) 4
            rw [ByteArray.data_append, Array.toList_append, HS.out, HX.out, beS_list]
          case measure => simp [intOf]; omega
        · obtain rfl : j = 8 := by omega
          go_wp2_with (fail)
          go_ret2
          refine ⟨?_, hbl⟩
          have e8 : S = dig256 s := by
            rw [HF.out, ← HS.out]
          rw [← e8]
          rfl
end Go.Proofs.Sha
