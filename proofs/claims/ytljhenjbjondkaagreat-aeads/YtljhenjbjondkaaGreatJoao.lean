/-
  The document's own answer: double, one block by a schedule.
-/
import Derived.Test.YtljhenjbjondkaaGreatProg
import Derived.Test.YtljhenjbjondkaaGreatJoaa
import Derived.Handy
import Derived.BigQuiet
import Derived.Deep.QuietTactic
import Derived.Deep.OwnRows
import Derived.Deep.MidRow
import Derived.StillTailTactics
import Derived.WalkSmall
import Derived.Deep.DeepCutAuto
import Derived.Laws.BytesArg
import Derived.Test.YtljhenjbjondkaaGreatJoan
import Derived.Laws.MakeOwn
import Derived.OwnWalk
namespace Go.Proofs.Aes
open Go.RowKit
theorem retI {k : IntKind} {a b : Int} (h : a = b) : Ending.returned (.int k a) = .returned (.int k b) := by rw [h]
set_option maxHeartbeats 400000 in
theorem double_any (x : Nat) (w : World) (hx : x < 256) :
    Calls Tryz.prog 61 #[.int .u8 x] w fun e w' => e = .returned (.int .u8 (dbl x : Nat)) ∧ w' = w := by
  by_cases h : 127 < x
  · have h1 : ((127 : Int) < (x : Int)) = True := eq_true (by omega)
    have HX := Lib.hid h
    clear h
    go_enter Tryz.func61, Tryz.ntmps61
    go_wp2
    go_ret
    refine ⟨retI ?_, rfl⟩
    have hd : dbl x = (x * 2 % 256) ^^^ 27 := by unfold dbl; rw [if_pos HX.out]
    rw [hd]
    have := u8_xor (x * 2 % 256) 27 (by omega) (by decide)
    rw [show ((x * 2 % 256 : Nat) : Int) = (x : Int) * 2 % 256 by omega] at this
    exact this
  · have h1 : ((127 : Int) < (x : Int)) = False := eq_false (by omega)
    have HX := Lib.hid h
    clear h
    go_enter Tryz.func61, Tryz.ntmps61
    go_wp2
    go_ret
    refine ⟨retI ?_, rfl⟩
    have hd : dbl x = x * 2 := by unfold dbl; rw [if_neg HX.out]
    rw [hd]; have := HX.out; omega
end Go.Proofs.Aes
/-
  The document's own answer: sixteen bytes as two words and back.
-/
namespace Go.Proofs.Gcm
open Go.RowKit
open Go.Proofs.Aes (byt byt_lt get_byt)
open Go.Proofs.Sha (rowIs_of)
/-- The number that k bytes at the place a say, the highest first. -/
def nv (s : ByteArray) (a : Nat) : Nat → Nat
  | 0 => 0
  | k + 1 => nv s a k * 256 + byt s (a + k)
theorem nv_lt (s : ByteArray) (a k : Nat) : nv s a k < 256 ^ k := by
  induction k with
  | zero => simp [nv]
  | succ k ih => have := byt_lt s (a + k); simp only [nv, Nat.pow_succ]; omega
theorem nv8 (s : ByteArray) (a k : Nat) (hk : k < 8) : nv s a k < 72057594037927936 := by
  have h := nv_lt s a k
  have h2 : 256 ^ k ≤ 256 ^ 7 := Nat.pow_le_pow_right (by decide) (by omega)
  have h3 : 256 ^ 7 = 72057594037927936 := by decide
  omega
theorem or_byte (x y : Nat) (hx : x < 72057594037927936) (hy : y < 256) : bits .or .u64 ((x : Int) * 256) (IntKind.u64.wrap (y : Int)) = ((x * 256 + y : Nat) : Int) := by
  have e : IntKind.u64.wrap (y : Int) = (y : Int) := by show (y : Int) % 18446744073709551616 = _; omega
  rw [e, show (x : Int) * 256 = ((x * 256 : Nat) : Int) by omega, u64_or_nat _ _ (by omega) (by omega), nat_join 8 (x * 256) y (by omega) (by omega)]
set_option maxHeartbeats 1000000 in
theorem halves_any (s : ByteArray) (w : World) (hs : s.size = 16) :
    Calls Tryz.prog 87 #[.string s] w fun e w' => e = .returned (.tuple #[.int .u64 (nv s 0 8 : Nat), .int .u64 (nv s 8 8 : Nat)]) ∧ w = w' := by
  go_enter Tryz.func87, Tryz.ntmps87
  go_wp2_with (fail)
  go_loop [4, 5, 6] (fun a b i => ∃ (n : Nat), Hid (n ≤ 8) ∧ i = .int .i64 n ∧ a = .int .u64 (nv s 0 n : Nat) ∧ b = .int .u64 (nv s 8 n : Nat)) (fun _ _ i => 8 - (intOf i).toNat)
  case atStart => exact ⟨0, Nat.zero_le _, rfl, rfl, rfl⟩
  case round =>
    obtain ⟨n, hn, rfl, rfl, rfl⟩ := hrel
    by_cases hlt : n < 8
    · have nl : ((n : Int) < 8) = True := eq_true (by omega)
      have HN := Lib.hid hlt
      have x1 := nv8 s 0 n hlt
      have x2 := nv8 s 8 n hlt
      go_wp2_with (fail)
      refine ⟨⟨n + 1, HN.out, by go_num, int64 ?_, int64 ?_⟩, by simp [intOf]; omega⟩
      · rw [get_byt, or_byte _ _ x1 (byt_lt s n)]
        show ((nv s 0 n * 256 + byt s n : Nat) : Int) = ((nv s 0 n * 256 + byt s (0 + n) : Nat) : Int)
        rw [Nat.zero_add]
      · rw [get_byt, or_byte _ _ x2 (byt_lt s (8 + n))]
        rfl
    · have nl : ((n : Int) < 8) = False := eq_false (by omega)
      obtain rfl : n = 8 := by have := hn.out; omega
      clear hlt
      go_wp2_with (fail)
      go_ret2
      exact ⟨rfl, rfl⟩
theorem zeros (m : Nat) (hm : m ≤ 1000000) : ∃ (M : Array Value), M.size = m ∧ (∀ i, i < m → M[i]? = some (.int .u8 0)) ∧
    (∀ W : World, (Instr.makeSlice 35 (.int .i64 (m : Int)) (.int .i64 (m : Int))).run Tryz.prog W = .ok (.slice (some ⟨W.heap.size, 0, none⟩) m m) (W.alloc (.cells M 5))) := by
  obtain ⟨i0, hi, hz0, hz1, hz2⟩ := info_parts (P := Tryz.prog) (e := 5) (z := .int .u8 0) (size := 1) (bytes := 1) (by kernel_rfl)
  refine ⟨madeCells (Value.int .u8 0).cells (m * i0.size), by rw [size_madeCells, hz1]; simp, fun i hi' => ?_, fun W => ?_⟩
  · rw [hz1]
    simp [madeCells, hi', Value.cells, Nat.mod_one]
  · have h := run_make (P := Tryz.prog) W 35 5 i0 (.int .u8 0) Tryz.underlying35 hi hz0 .i64 .i64 (m : Int) (m : Int) (by omega) (by omega) (by rw [hz2]; omega) (by omega)
    rw [Int.toNat_natCast] at h
    exact h
/-- The bytes under way. -/
def RowB (wx : World) (g m : Nat) (X : Nat → Nat) : Prop := wx.rowIs g 5 m (fun i => .int .u8 (X i : Nat))
theorem RowB.set {wx : World} {g m : Nat} {X : Nat → Nat} (r : RowB wx g m X) (j x : Nat) : RowB (wx.setCell ⟨g, j, none⟩ (.int .u8 x)) g m (fun i => if i = j then x else X i) :=
  World.rowIs.congr (World.rowIs.set r j (.int .u8 x)) fun i _ => by simp only []; split <;> rfl
theorem RowB.congr {wx : World} {g m : Nat} {X Y : Nat → Nat} (r : RowB wx g m X) (h : ∀ i, i < m → X i = Y i) : RowB wx g m Y := World.rowIs.congr r fun i hi => by rw [h i hi]
/-- Two words' bytes, the highest first. -/
def wB (a b t : Nat) : Nat := if t < 8 then a / 256 ^ (7 - t) % 256 else b / 256 ^ (15 - t) % 256
def wholeS (a b : Nat) : ByteArray := strOfNums ((List.range 16).map fun t => (wB a b t : Int))
theorem wholeS_size (a b : Nat) : (wholeS a b).size = 16 := by simp [wholeS, strOfNums_size]
theorem and_byte (a : Nat) (ha : a < 18446744073709551616) : bits .and .u64 (a : Int) 255 = ((a % 256 : Nat) : Int) := by
  have h := u64_and_nat a 255 ha (by decide)
  rw [nat_mask8] at h
  exact h
set_option maxHeartbeats 1000000 in
theorem whole_any (a b : Nat) (w : World) (ha : a < 18446744073709551616) (hb : b < 18446744073709551616) :
    Calls Tryz.prog 89 #[.int .u64 a, .int .u64 b] w fun e w' => e = .returned (.string (wholeS a b)) ∧ Below w.heap.size w w' := by
  obtain ⟨M, hM, hMc, hmk0⟩ := zeros 16 (by decide)
  have hmk : ∀ W : World, (Instr.makeSlice 35 (.int .i64 16) (.int .i64 16)).run Tryz.prog W = .ok (.slice (some ⟨W.heap.size, 0, none⟩) 16 16) (W.alloc (.cells M 5)) := hmk0
  have R0 : Hid (RowB (w.alloc (.cells M 5)) w.heap.size 16 (fun _ => 0)) := rowIs_of w M 5 16 _ hM hMc
  have B0 : Hid (Below w.heap.size w (w.alloc (.cells M 5))) := (Below.refl _ w).alloc (Nat.le_refl _) _
  have HA := Lib.hid ha
  have HB := Lib.hid hb
  clear hM hMc hmk0 ha hb
  go_enter Tryz.func89, Tryz.ntmps89
  go_wp2_with (fail)
  clear hmk
  generalize w.alloc (.cells M 5) = w1 at R0 B0 ⊢
  go_loopw [0, 1, 6] (fun va vb vi wx => ∃ (p A B : Nat) (z : Int) (X : Nat → Nat), Hid (p ≤ 8) ∧ vi = .int .i64 z ∧ Hid (z = (p : Int) - 1) ∧ va = .int .u64 A ∧ vb = .int .u64 B ∧ Hid (A = a / 256 ^ (8 - p)) ∧ Hid (B = b / 256 ^ (8 - p)) ∧ Hid (∀ t, p ≤ t → t < 8 → X t = wB a b t) ∧ Hid (∀ t, 8 + p ≤ t → t < 16 → X t = wB a b t) ∧ Hid (RowB wx w.heap.size 16 X) ∧ Hid (Below w.heap.size w wx)) (fun _ _ i _ => (intOf i + 1).toNat)
  case atStart => exact ⟨8, a, b, 7, fun _ => 0, Nat.le_refl 8, rfl, rfl, rfl, rfl, (Nat.div_one a).symm, (Nat.div_one b).symm, fun t h h' => by omega, fun t h h' => by omega, R0, B0⟩
  case round =>
    clear R0 B0
    obtain ⟨p, A, B, z, X, hp, rfl, HZ, rfl, rfl, HAe, HBe, hx, hy, HR, HBl⟩ := hrel
    have hAl : A < 18446744073709551616 := by rw [HAe.out]; exact Nat.lt_of_le_of_lt (Nat.div_le_self _ _) HA.out
    have hBl' : B < 18446744073709551616 := by rw [HBe.out]; exact Nat.lt_of_le_of_lt (Nat.div_le_self _ _) HB.out
    by_cases h0 : p = 0
    · obtain rfl : z = -1 := by have := HZ.out; omega
      have X1 : Hid (RowB wr w.heap.size 16 (wB a b)) := HR.out.congr fun t ht => by
        by_cases h8 : t < 8
        · exact hx.out t (by omega) h8
        · exact hy.out t (by omega) ht
      have hcv : (convert 35 9 (.slice (some ⟨w.heap.size, 0, none⟩) 16 16)).run Tryz.prog wr = .ok (.string (wholeS a b)) wr :=
        run_convert_bytes_arg (P := Tryz.prog) _ 35 5 Tryz.underlying35 Tryz.underlying5 w.heap.size 0 16 16 _ (by simp) (fun i hi => by
          have := World.rowIs.cell X1.out (i := i) hi
          simpa [List.getD_eq_getElem?_getD, hi] using this) 9 Tryz.underlying9
      clear h0 hx hy
      go_wp2_with (fail)
      go_ret
      exact ⟨rfl, HBl.out⟩
    · obtain ⟨q, rfl⟩ : ∃ q, p = q + 1 := ⟨p - 1, by omega⟩
      obtain rfl : z = (q : Int) := by have := HZ.out; omega
      have q8 : q < 8 := by have := hp.out; omega
      have HQ := Lib.hid q8
      have o1 := and_byte A hAl
      have o2 := and_byte B hBl'
      have c1 := World.rowIs.cell HR.out (i := q) (by omega)
      have f1 := World.rowIs.frozen HR.out q
      have c2 := World.rowIs.cell HR.out (i := 8 + q) (by omega)
      have f2 := World.rowIs.frozen HR.out (8 + q)
      clear h0
      go_wp2_with (fail)
      rw [show (A : Int) % 256 = ((A % 256 : Nat) : Int) by omega, show (B : Int) % 256 = ((B % 256 : Nat) : Int) by omega]
      have p7 : 8 - (q + 1) = 7 - q := by omega
      have p8 : 8 - q = (7 - q) + 1 := by have := HQ.out; omega
      have wa : A % 256 = wB a b q := by unfold wB; rw [if_pos HQ.out, HAe.out, p7]
      have wb : B % 256 = wB a b (8 + q) := by unfold wB; rw [if_neg (by omega), HBe.out, p7, show 15 - (8 + q) = 7 - q by omega]
      refine ⟨⟨q, A / 256, B / 256, (q : Int) - 1, _, Nat.le_of_lt HQ.out, rfl, rfl, int64 (by omega), int64 (by omega), ?_, ?_, fun t h h' => ?_, fun t h h' => ?_, (HR.out.set q (A % 256)).set (8 + q) (B % 256), (HBl.out.setCell (Nat.le_refl _) _).setCell (Nat.le_refl _) _⟩, ?_⟩
      · show A / 256 = _
        rw [HAe.out, Nat.div_div_eq_div_mul, p7, p8, Nat.pow_succ]
      · show B / 256 = _
        rw [HBe.out, Nat.div_div_eq_div_mul, p7, p8, Nat.pow_succ]
      · show (if t = 8 + q then B % 256 else if t = q then A % 256 else X t) = _
        rw [if_neg (by omega)]
        by_cases e : t = q
        · subst e; rw [if_pos rfl]; exact wa
        · rw [if_neg e]; exact hx.out t (by omega) h'
      · show (if t = 8 + q then B % 256 else if t = q then A % 256 else X t) = _
        by_cases e : t = 8 + q
        · rw [if_pos e, e]; exact wb
        · rw [if_neg e, if_neg (by omega)]; exact hy.out t (by omega) h'
      · show ((q : Int) - 1 + 1).toNat < ((q : Int) + 1).toNat
        omega
end Go.Proofs.Gcm
/-
  The document's own answer: GHASH.
-/
namespace Go.Proofs.Gcm
open Go.RowKit
open Go.Proofs.Aes (byt byt_lt get_byt)
/-- The sum behind k blocks. -/
def gSum (c d : Nat) (s : ByteArray) : Nat → Nat × Nat
  | 0 => (0, 0)
  | k + 1 => (mulX ((gSum c d s k).1 ^^^ nv s (16 * k) 8) ((gSum c d s k).2 ^^^ nv s (16 * k + 8) 8) c d, mulY ((gSum c d s k).1 ^^^ nv s (16 * k) 8) ((gSum c d s k).2 ^^^ nv s (16 * k + 8) 8) c d)
def ghS (h s : ByteArray) : ByteArray := wholeS (gSum (nv h 0 8) (nv h 8 8) s (s.size / 16)).1 (gSum (nv h 0 8) (nv h 8 8) s (s.size / 16)).2
theorem ghS_size (h s : ByteArray) : (ghS h s).size = 16 := wholeS_size _ _
theorem nv64 (s : ByteArray) (a : Nat) : nv s a 8 < 18446744073709551616 := nv_lt s a 8
theorem mul_lt (a b c d : Nat) (ha : a < 18446744073709551616) (hb : b < 18446744073709551616) (hc : c < 18446744073709551616) (hd : d < 18446744073709551616) : mulX a b c d < 18446744073709551616 ∧ mulY a b c d < 18446744073709551616 := by
  have h := tRun_lt ⟨a, b, c, d, 0, 0⟩ ⟨ha, hb, hc, hd, (by decide : (0 : Nat) < 18446744073709551616), (by decide : (0 : Nat) < 18446744073709551616)⟩ 128
  exact ⟨h.2.2.2.2.1, h.2.2.2.2.2⟩
theorem gSum_lt (c d : Nat) (s : ByteArray) (hc : c < 18446744073709551616) (hd : d < 18446744073709551616) (k : Nat) : (gSum c d s k).1 < 18446744073709551616 ∧ (gSum c d s k).2 < 18446744073709551616 := by
  induction k with
  | zero => exact ⟨(by decide : (0 : Nat) < 18446744073709551616), (by decide : (0 : Nat) < 18446744073709551616)⟩
  | succ k ih => exact mul_lt _ _ c d (xor64_lt ih.1 (nv64 _ _)) (xor64_lt ih.2 (nv64 _ _)) hc hd
theorem byt_extract (s : ByteArray) (a n i : Nat) (h : i < n) : byt (s.extract a (a + n)) i = byt s (a + i) := by
  unfold byt
  rw [show (s.extract a (a + n)).data.toList = (s.data.toList.drop a).take n by simp [List.extract_eq_take_drop], List.getD_eq_getElem?_getD, List.getElem?_take, if_pos h, List.getElem?_drop, ← List.getD_eq_getElem?_getD]
theorem nv_extract (s : ByteArray) (a n o k : Nat) (h : o + k ≤ n) : nv (s.extract a (a + n)) o k = nv s (a + o) k := by
  induction k with
  | zero => rfl
  | succ k ih =>
    show nv (s.extract a (a + n)) o k * 256 + byt (s.extract a (a + n)) (o + k) = nv s (a + o) k * 256 + byt s (a + o + k)
    rw [ih (by omega), byt_extract s a n (o + k) (by omega), Nat.add_assoc]
set_option maxHeartbeats 1000000 in
theorem ghash_any (h s : ByteArray) (w : World) (hh : h.size = 16) (hs : s.size ≤ 140737488355328) :
    Calls Tryz.prog 64 #[.string h, .string s] w fun e w' => e = .returned (.string (ghS h s)) ∧ Below w.heap.size w w' := by
  have HH := Lib.hid hh
  have HC0 := Lib.hid (halves_any h w hh)
  have HC := Lib.hid (nv64 h 0)
  have HD := Lib.hid (nv64 h 8)
  have HSz := Lib.hid hs
  unfold ghS
  clear hh hs
  generalize nv h 0 8 = c at HC HC0 ⊢
  generalize nv h 8 8 = d at HD HC0 ⊢
  go_enter Tryz.func64, Tryz.ntmps64
  go_wp2_with (fail)
  refine HC0.out.mono ?_
  rintro e u ⟨rfl, rfl⟩
  clear HC0
  go_wp2_with (fail)
  go_loop [7, 8, 9] (fun vx vy vi => ∃ (k m x y : Nat), Hid (m = 16 * k ∧ m ≤ s.size) ∧ vi = .int .i64 m ∧ vx = .int .u64 x ∧ vy = .int .u64 y ∧ Hid (gSum c d s k = (x, y))) (fun _ _ i => s.size - (intOf i).toNat)
  case atStart => exact ⟨0, 0, 0, 0, ⟨rfl, Nat.zero_le _⟩, rfl, rfl, rfl, rfl⟩
  case round =>
    obtain ⟨k, m, x, y, hm, rfl, rfl, rfl, HG⟩ := hrel
    have hl := gSum_lt c d s HC.out HD.out k
    rw [HG.out] at hl
    have HLt := Lib.hid hl
    clear hl
    have sz := HSz.out
    have mz := hm.out.2
    by_cases hlt : m + 16 ≤ s.size
    · have l1 : ((m : Int) + 16 ≤ (s.size : Int)) = True := eq_true (by omega)
      have l2 : (m + 16 ≤ s.size) = True := eq_true hlt
      have HL := Lib.hid hlt
      have HZ : Hid ((s.extract m (m + 16)).size = 16) := by show (s.extract m (m + 16)).size = 16; rw [ByteArray.size_extract]; omega
      have HN1 : Hid (nv (s.extract m (m + 16)) 0 8 = nv s (16 * k) 8) := by show nv (s.extract m (m + 16)) 0 8 = _; rw [nv_extract s m 16 0 8 (by decide), hm.out.1, Nat.add_zero]
      have HN2 : Hid (nv (s.extract m (m + 16)) 8 8 = nv s (16 * k + 8) 8) := by show nv (s.extract m (m + 16)) 8 8 = _; rw [nv_extract s m 16 8 8 (by decide), hm.out.1]
      clear hlt
      have HP : Hid (nv s (16 * k) 8 < 18446744073709551616) := nv64 _ _
      have HQ : Hid (nv s (16 * k + 8) 8 < 18446744073709551616) := nv64 _ _
      have HG2 : Hid (gSum c d s (k + 1) = (mulX (x ^^^ nv s (16 * k) 8) (y ^^^ nv s (16 * k + 8) 8) c d, mulY (x ^^^ nv s (16 * k) 8) (y ^^^ nv s (16 * k + 8) 8) c d)) := by
        show (mulX ((gSum c d s k).1 ^^^ nv s (16 * k) 8) ((gSum c d s k).2 ^^^ nv s (16 * k + 8) 8) c d, mulY ((gSum c d s k).1 ^^^ nv s (16 * k) 8) ((gSum c d s k).2 ^^^ nv s (16 * k + 8) 8) c d) = _
        rw [HG.out]
      generalize nv s (16 * k) 8 = p at HN1 HP HG2
      generalize nv s (16 * k + 8) 8 = q at HN2 HQ HG2
      have o1 := u64_xor_nat x p HLt.out.1 HP.out
      have o2 := u64_xor_nat y q HLt.out.2 HQ.out
      have HX := Lib.hid (xor64_lt HLt.out.1 HP.out)
      have HY := Lib.hid (xor64_lt HLt.out.2 HQ.out)
      generalize x ^^^ p = x' at o1 HX HG2
      generalize y ^^^ q = y' at o2 HY HG2
      have HM := Lib.hid (mul_lt x' y' c d HX.out HY.out HC.out HD.out)
      go_wp2_with (fail)
      refine (halves_any (s.extract m (m + 16)) _ HZ.out).mono ?_
      rw [HN1.out, HN2.out]
      rintro e u ⟨rfl, rfl⟩
      go_wp2_with (fail)
      refine (times_any x' y' c d _ HX.out HY.out HC.out HD.out).mono ?_
      rintro e u ⟨rfl, rfl⟩
      go_wp2_with (fail)
      go_round
      case rel => exact ⟨k + 1, m + 16, _, _, ⟨by have := hm.out.1; omega, HL.out⟩, by go_num, rfl, rfl, HG2.out⟩
      case measure => have := HL.out; simp [intOf]; omega
    · have l1 : ((m : Int) + 16 ≤ (s.size : Int)) = False := eq_false (by omega)
      have l2 : (m + 16 ≤ s.size) = False := eq_false hlt
      have HK : Hid (s.size / 16 = k) := by show s.size / 16 = k; have := hm.out.1; omega
      clear hlt
      go_wp2_with (fail)
      refine (whole_any x y _ HLt.out.1 HLt.out.2).mono ?_
      rintro e v ⟨rfl, hv⟩
      go_wp2_with (fail)
      go_ret
      refine ⟨?_, hv⟩
      rw [HK.out, HG.out]
      rfl
end Go.Proofs.Gcm
