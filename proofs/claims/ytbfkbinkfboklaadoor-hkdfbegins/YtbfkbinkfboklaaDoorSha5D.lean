/-
  The document's own answer: Sum of 384 bits.
-/
import Derived.Test.YtbfkbinkfboklaaDoorBeB
import Derived.Test.YtbfkbinkfboklaaDoorSha5B
namespace Go.Proofs.Sha5
open Go.RowKit Go.Proofs.Be
open Go.Proofs.Sha (rowIs_of)

def pad384 (s : ByteArray) : ByteArray := s ++ ⟨#[128]⟩ ++ zS ((128 - (s.size + 17) % 128) % 128 + 8) ++ beS (8 * s.size) 8
theorem pad384_size (s : ByteArray) : (pad384 s).size = s.size + 17 + (128 - (s.size + 17) % 128) % 128 := by
  unfold pad384
  rw [ByteArray.size_append, ByteArray.size_append, ByteArray.size_append, zS_size, beS_size]
  show s.size + 1 + _ + 8 = _
  omega
theorem pad384_mod (s : ByteArray) : (pad384 s).size % 128 = 0 := by rw [pad384_size]; omega
theorem pad384_le (s : ByteArray) : (pad384 s).size ≤ s.size + 144 := by rw [pad384_size]; omega
def iv384 : List Nat := [0xcbbb9d5dc1059ed8, 0x629a292a367cd507, 0x9159015a3070dd17, 0x152fecd8f70e5939, 0x67332667ffc00b31, 0x8eb44a8768581511, 0xdb0c2e0d64f98fa7, 0x47b5481dbefa4fa4]
/-- The state behind n blocks of p. -/
def blks (p : ByteArray) (v : List Nat) : Nat → List Nat
  | 0 => v
  | n + 1 => blk (p.extract (128 * n) (128 * n + 128)) (blks p v n)
def st384 (s : ByteArray) : List Nat := blks (pad384 s) iv384 ((pad384 s).size / 128)
def dig384 (s : ByteArray) : ByteArray := ⟨(((st384 s).take 6).flatMap fun x => beL (x / 4294967296) 4 ++ beL (x % 4294967296) 4).toArray⟩
/-- The state row of Sum. -/
def RowS (w wr : World) (a b c d e f g h : Nat) : Prop := wr.rowIs w.heap.size 68 8 (fun i => .int .u64 (hOf a b c d e f g h i : Nat))
theorem RowS.below {w wr u : World} {a b c d e f g h : Nat} (r : RowS w wr a b c d e f g h) (hb : Below wr.heap.size wr u) : RowS w u a b c d e f g h :=
  World.rowIs.of_block r (hb.block _ (World.rowIs.lt r))
theorem RowS.set8 {w wr : World} {a b c d e f g h : Nat} (r : RowS w wr a b c d e f g h) (x0 x1 x2 x3 x4 x5 x6 x7 : Nat) :
    RowS w ((((((((wr.setCell ⟨w.heap.size, 0, none⟩ (.int .u64 x0)).setCell ⟨w.heap.size, 1, none⟩ (.int .u64 x1)).setCell ⟨w.heap.size, 2, none⟩ (.int .u64 x2)).setCell ⟨w.heap.size, 3, none⟩ (.int .u64 x3)).setCell ⟨w.heap.size, 4, none⟩ (.int .u64 x4)).setCell ⟨w.heap.size, 5, none⟩ (.int .u64 x5)).setCell ⟨w.heap.size, 6, none⟩ (.int .u64 x6)).setCell ⟨w.heap.size, 7, none⟩ (.int .u64 x7)) x0 x1 x2 x3 x4 x5 x6 x7 :=
  World.rowIs.congr ((((((((World.rowIs.set r 0 (.int .u64 x0)).set 1 (.int .u64 x1)).set 2 (.int .u64 x2)).set 3 (.int .u64 x3)).set 4 (.int .u64 x4)).set 5 (.int .u64 x5)).set 6 (.int .u64 x6)).set 7 (.int .u64 x7)) (lt8' rfl rfl rfl rfl rfl rfl rfl rfl)
theorem below_set8 {w wr : World} (hb : Below w.heap.size w wr) (x0 x1 x2 x3 x4 x5 x6 x7 : Value) :
    Below w.heap.size w ((((((((wr.setCell ⟨w.heap.size, 0, none⟩ x0).setCell ⟨w.heap.size, 1, none⟩ x1).setCell ⟨w.heap.size, 2, none⟩ x2).setCell ⟨w.heap.size, 3, none⟩ x3).setCell ⟨w.heap.size, 4, none⟩ x4).setCell ⟨w.heap.size, 5, none⟩ x5).setCell ⟨w.heap.size, 6, none⟩ x6).setCell ⟨w.heap.size, 7, none⟩ x7) :=
  (((((((hb.setCell (Nat.le_refl _) _).setCell (Nat.le_refl _) _).setCell (Nat.le_refl _) _).setCell (Nat.le_refl _) _).setCell (Nat.le_refl _) _).setCell (Nat.le_refl _) _).setCell (Nat.le_refl _) _).setCell (Nat.le_refl _) _

theorem padded384 (s : ByteArray) (w : World) (hs : s.size ≤ 288230376151711744) :
    Calls Tryd.prog 36 #[.string s, .int .i64 128, .int .i64 16] w fun e w' => e = .returned (.string (pad384 s)) ∧ Below w.heap.size w w' := padded_128 s w hs
theorem hOf_lt {a b c d e f g h : Nat} (l : Lt64 a b c d e f g h) (i : Nat) (hi : i < 8) : hOf a b c d e f g h i < 18446744073709551616 := by
  obtain ⟨la, lb, lc, ld, le, lf, lg, lh⟩ := l
  exact lt8 (P := fun i => hOf a b c d e f g h i < 18446744073709551616) la lb lc ld le lf lg lh i hi
/-- The first n words as bytes. -/
def outL (v : Nat → Nat) : Nat → List UInt8
  | 0 => []
  | n + 1 => outL v n ++ (beL (v n / 4294967296) 4 ++ beL (v n % 4294967296) 4)
theorem outL_length (v : Nat → Nat) (n : Nat) : (outL v n).length = 8 * n := by
  induction n with
  | zero => rfl
  | succ n ih => simp [outL, ih, beL_length]; omega
/-- What a round of the output leans on. -/
def At (w u : World) (j x a b c d e f g h : Nat) : Prop := u.cell? ⟨w.heap.size, j, none⟩ = some (.int .u64 (x : Nat)) ∧ RowS w u a b c d e f g h ∧ Below w.heap.size w u
theorem be_held {w u : World} {j x a b c d e f g h : Nat} (y : Nat) (hy : y < 4294967296) (hS : At w u j x a b c d e f g h) :
    Calls Tryd.prog 25 #[.int .i64 y, .int .i64 4] u fun e' u' => e' = .returned (.string (beS y 4)) ∧ At w u' j x a b c d e f g h :=
  (be_4 y u hy).mono fun _ _ ⟨he, hbu⟩ => ⟨he, by rw [hbu.cell (p := ⟨w.heap.size, j, none⟩) (World.block_lt_of_cell? _ _ hS.1)]; exact hS.1, RowS.below hS.2.1 hbu, hS.2.2.trans (hbu.mono hS.2.2.size)⟩
set_option maxHeartbeats 2000000 in
set_option maxRecDepth 100000 in
theorem rsum_384 (s : ByteArray) (w : World) (hs : s.size ≤ 288230376151711744) :
    Calls Tryd.prog 27 #[.int .i64 384, .string s] w fun e w' => e = .returned (.tuple #[.string (dig384 s), .int .i64 0]) ∧ Below w.heap.size w w' := by
  have p1 := pad384_le s
  have p2 := Lib.hid (pad384_mod s)
  go_enter Tryd.func27, Tryd.ntmps27
  go_wp2_with (go_at_call 36; refine (padded384 s _ hs).mono ?_; rintro e u ⟨rfl, hbu⟩)
  have HD : Hid (dig384 s = ⟨(((blks (pad384 s) iv384 ((pad384 s).size / 128)).take 6).flatMap fun x => beL (x / 4294967296) 4 ++ beL (x % 4294967296) 4).toArray⟩) := rfl
  generalize pad384 s = P at p1 p2 HD ⊢
  have P3 : P.size ≤ 288230376151711888 := by omega
  clear p1
  have R0 : RowS w u 0xcbbb9d5dc1059ed8 0x629a292a367cd507 0x9159015a3070dd17 0x152fecd8f70e5939 0x67332667ffc00b31 0x8eb44a8768581511 0xdb0c2e0d64f98fa7 0x47b5481dbefa4fa4 :=
    RowS.below (rowIs_of w _ 68 8 _ rfl (lt8 rfl rfl rfl rfl rfl rfl rfl rfl)) hbu
  have B0 : Below w.heap.size w u := ((Below.refl _ w).alloc (Nat.le_refl _) _).trans (hbu.mono (by simp))
  clear hbu
  go_loopw [13] (fun i wx => ∃ (n a b c d e f g m : Nat), 128 * n ≤ P.size ∧ i = .int .i64 ((128 * n : Nat) : Int) ∧ Hid (blks P iv384 n = [a, b, c, d, e, f, g, m]) ∧ Hid (Lt64 a b c d e f g m) ∧ RowS w wx a b c d e f g m ∧ Below w.heap.size w wx) (fun i _ => P.size - (intOf i).toNat)
  case atStart => exact ⟨0, _, _, _, _, _, _, _, _, by omega, rfl, rfl, ⟨by decide, by decide, by decide, by decide, by decide, by decide, by decide, by decide⟩, R0, B0⟩
  case round =>
    clear R0 B0
    obtain ⟨n, a, b, c, d, e, f, g, m, hn, rfl, HB, HL, HR, hbl⟩ := hrel
    have hmod := p2.out
    by_cases hlt : 128 * n < P.size
    · have hq : 128 * n + 128 ≤ P.size := by omega
      clear hmod
      have v0 : wr.cell? ⟨w.heap.size, 0, none⟩ = some (.int .u64 (a : Nat)) := HR.cell (i := 0) (by omega)
      have v1 : wr.cell? ⟨w.heap.size, 1, none⟩ = some (.int .u64 (b : Nat)) := HR.cell (i := 1) (by omega)
      have v2 : wr.cell? ⟨w.heap.size, 2, none⟩ = some (.int .u64 (c : Nat)) := HR.cell (i := 2) (by omega)
      have v3 : wr.cell? ⟨w.heap.size, 3, none⟩ = some (.int .u64 (d : Nat)) := HR.cell (i := 3) (by omega)
      have v4 : wr.cell? ⟨w.heap.size, 4, none⟩ = some (.int .u64 (e : Nat)) := HR.cell (i := 4) (by omega)
      have v5 : wr.cell? ⟨w.heap.size, 5, none⟩ = some (.int .u64 (f : Nat)) := HR.cell (i := 5) (by omega)
      have v6 : wr.cell? ⟨w.heap.size, 6, none⟩ = some (.int .u64 (g : Nat)) := HR.cell (i := 6) (by omega)
      have v7 : wr.cell? ⟨w.heap.size, 7, none⟩ = some (.int .u64 (m : Nat)) := HR.cell (i := 7) (by omega)
      generalize hk : 128 * n = k at *
      have HK := Lib.hid hk
      clear hk
      have z0 : (0 : Int) ≤ (k : Int) := by omega
      have y1 : (k : Int) + 128 ≤ P.size := by omega
      have y2 : (k : Int) ≤ (k : Int) + 128 := by omega
      have y4 : (0 : Int) ≤ (k : Int) + 128 := by omega
      have y3 : ((k : Int) + 128).toNat = k + 128 := by omega
      have x1 : IntKind.i64.wrap ((k : Int) + 128) = (k : Int) + 128 := IntWalk.i64_in _ (by omega)
      go_wp2_with (fail)
      go_still_tail 6, (by kernel_rfl)
      change wpList _ _ _ _ _ wr.drew
      clear x1
      go_wp2_with (fail)
      refine (block512_any (P.extract k (k + 128)) a b c d e f g m _ (by rw [ByteArray.size_extract]; omega) HL.out).mono ?_
      rintro e' u ⟨x0, x1, x2, x3, x4, x5, x6, x7, hx, lx, rfl, hbu⟩
      have HX := Lib.hid hx
      have LX := Lib.hid lx
      clear hx lx v0 v1 v2 v3 v4 v5 v6 v7
      have HU : RowS w u a b c d e f g m := RowS.below (wr := wr.drew) HR.drew hbu
      have BU : Below w.heap.size w u := hbl.drew.trans (hbu.mono hbl.size)
      clear hbu
      have g0 : u.cell? ⟨w.heap.size, 0, none⟩ = some (.int .u64 (a : Nat)) := HU.cell (i := 0) (by omega)
      have f0 := World.rowIs.frozen HU 0
      have g1 : u.cell? ⟨w.heap.size, 1, none⟩ = some (.int .u64 (b : Nat)) := HU.cell (i := 1) (by omega)
      have f1 := World.rowIs.frozen HU 1
      have g2 : u.cell? ⟨w.heap.size, 2, none⟩ = some (.int .u64 (c : Nat)) := HU.cell (i := 2) (by omega)
      have f2 := World.rowIs.frozen HU 2
      have g3 : u.cell? ⟨w.heap.size, 3, none⟩ = some (.int .u64 (d : Nat)) := HU.cell (i := 3) (by omega)
      have f3 := World.rowIs.frozen HU 3
      have g4 : u.cell? ⟨w.heap.size, 4, none⟩ = some (.int .u64 (e : Nat)) := HU.cell (i := 4) (by omega)
      have f4 := World.rowIs.frozen HU 4
      have g5 : u.cell? ⟨w.heap.size, 5, none⟩ = some (.int .u64 (f : Nat)) := HU.cell (i := 5) (by omega)
      have f5 := World.rowIs.frozen HU 5
      have g6 : u.cell? ⟨w.heap.size, 6, none⟩ = some (.int .u64 (g : Nat)) := HU.cell (i := 6) (by omega)
      have f6 := World.rowIs.frozen HU 6
      have g7 : u.cell? ⟨w.heap.size, 7, none⟩ = some (.int .u64 (m : Nat)) := HU.cell (i := 7) (by omega)
      have f7 := World.rowIs.frozen HU 7
      go_wp2_with (fail)
      go_roundw
      case rel =>
        refine ⟨n + 1, x0, x1, x2, x3, x4, x5, x6, x7, by have := HK.out; omega, (by rw [show ((128 * (n + 1) : Nat) : Int) = (k : Int) + 128 by have := HK.out; omega]), ?_, LX, HU.set8 _ _ _ _ _ _ _ _, below_set8 BU _ _ _ _ _ _ _ _⟩
        show blk (P.extract (128 * n) (128 * n + 128)) (blks P iv384 n) = _
        rw [HB.out, HK.out]; exact HX.out
      case measure => simp [intOf]; omega
    · have hn2 : P.size / 128 = n := by omega
      have HF : Hid (dig384 s = ⟨(outL (hOf a b c d e f g m) 6).toArray⟩) := by
        show dig384 s = ⟨(outL (hOf a b c d e f g m) 6).toArray⟩
        rw [HD.out, hn2, HB.out]
        rfl
      clear hmod hn2 HD HB p2 hn
      generalize 128 * n = k at *
      go_wp2_with (fail)
      go_loopw [14, 15] (fun out i wx => ∃ (j : Nat) (S : ByteArray), j ≤ 6 ∧ i = .int .i64 j ∧ out = .string S ∧ Hid (S.data.toList = outL (hOf a b c d e f g m) j) ∧ S.size ≤ 8 * j ∧ RowS w wx a b c d e f g m ∧ Below w.heap.size w wx) (fun _ i _ => 6 - (intOf i).toNat)
      case atStart => exact ⟨0, ⟨#[]⟩, by omega, rfl, rfl, rfl, by decide, HR, hbl⟩
      case round =>
        clear HR hbl
        obtain ⟨j, S, hj, rfl, rfl, HS, hS4, HR, hbl⟩ := hrel
        by_cases hlt : j < 6
        · obtain ⟨x, hx⟩ : ∃ x, hOf a b c d e f g m j = x := ⟨_, rfl⟩
          have XL := Lib.hid (hOf_lt HL.out j (by omega))
          rw [hx] at XL
          have cj : wr.cell? ⟨w.heap.size, j, none⟩ = some (.int .u64 (x : Nat)) := by rw [← hx]; exact World.rowIs.cell HR (i := j) (by omega)
          have HX := Lib.hid hx
          clear hx
          have jb : (j : Int) < 8 := by omega
          have jn : j < 8 := by omega
          obtain ⟨p, hp⟩ : ∃ p : Nat, (x : Int) / 4294967296 = p := ⟨x / 4294967296, by omega⟩
          have HPl : Hid (p < 4294967296) := by have := XL.out; show p < 4294967296; omega
          have HPe : Hid (x / 4294967296 = p) := by show x / 4294967296 = p; omega
          obtain ⟨q, hq⟩ : ∃ q : Nat, bits .and .u64 (x : Int) 4294967295 = q := ⟨x % 4294967296, by have h := u64_and_nat x 4294967295 XL.out (by decide); rw [nat_mask32] at h; exact h⟩
          have HQe : Hid (x % 4294967296 = q) := by
            have h := u64_and_nat x 4294967295 XL.out (by decide)
            rw [nat_mask32] at h
            have h2 : ((x % 4294967296 : Nat) : Int) = q := h.symm.trans hq
            show x % 4294967296 = q
            omega
          have HQl : Hid (q < 4294967296) := by have := HQe.out; show q < 4294967296; omega
          have x1 : IntKind.i64.wrap (p : Int) = p := IntWalk.i64_in _ (by have := HPl.out; omega)
          have x2 : IntKind.i64.wrap (q : Int) = q := IntWalk.i64_in _ (by have := HQl.out; omega)
          have z4 : (beS p 4).size = 4 := beS_size p 4
          have z5 : (beS q 4).size = 4 := beS_size q 4
          have d1 : (9223372036854775807 < S.size + 4) = False := by simp; omega
          have d2 : (9223372036854775807 < S.size + 4 + 4) = False := by simp; omega
          go_wp2_with (fail)
          have hS0 : At w wr j x a b c d e f g m := ⟨cj, HR, hbl⟩
          have hSd : At w wr.drew j x a b c d e f g m := ⟨by rw [World.cell?_drew]; exact cj, HR.drew, hbl.drew⟩
          go_region_held3 (fun w' => w'.cell? ⟨w.heap.size, j, none⟩ = some (.int .u64 (x : Nat)) ∧ RowS w w' a b c d e f g m ∧ Below w.heap.size w w') (first | exact hS2 | exact hSd | exact hS0)
            (first | (go_at_call 25; refine (be_held _ ?_ (by first | exact hS2 | exact hSd)).mono ?_; (first | exact HPl.out | exact HQl.out); rintro e' u ⟨rfl, hS2⟩))
          obtain ⟨_, HR2, hb2⟩ := hS2
          clear d1 d2
          go_wp2_with (fail)
          go_roundw
          case rel =>
            refine ⟨j + 1, S ++ beS p 4 ++ beS q 4, by omega, by go_num, rfl, ?_, by rw [ByteArray.size_append, ByteArray.size_append, z4, z5]; omega, HR2, hb2⟩
            show (S ++ beS p 4 ++ beS q 4).data.toList = outL (hOf a b c d e f g m) j ++ (beL (hOf a b c d e f g m j / 4294967296) 4 ++ beL (hOf a b c d e f g m j % 4294967296) 4)
            rw [ByteArray.data_append, Array.toList_append, ByteArray.data_append, Array.toList_append, HS.out, HX.out, HPe.out, HQe.out, beS_list, beS_list, List.append_assoc]
          case measure => simp [intOf]; omega
        · obtain rfl : j = 6 := by omega
          go_wp2_with (fail)
          go_ret2
          refine ⟨?_, hbl⟩
          have e8 : S = dig384 s := by
            rw [HF.out, ← HS.out]
          rw [← e8]
          rfl
end Go.Proofs.Sha5
