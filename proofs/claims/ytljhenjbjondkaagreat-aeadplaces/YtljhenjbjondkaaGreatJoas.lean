/-
  Contracts of the document's own answers: Be (4 and 8 bytes), padded.
-/
import Derived.Test.YtljhenjbjondkaaGreatProg
import Derived.WalkKit
import Derived.WalkSpells
import Derived.Handy
import Derived.Lib.Hide
import Derived.Lib.Strings
import Derived.Laws.BitsAllLaws
import Derived.Laws.BytesArg
import Derived.Laws.MakeOwn
import Derived.Deep.RegionHeld3
import Derived.StillTailTactics
import Derived.WalkSmall
import Derived.Test.YtljhenjbjondkaaGreatJoao
import Derived.Test.YtljhenjbjondkaaGreatJoar
namespace Go.Proofs.Be
open Go.RowKit
/-- A number's bytes, k of them, the highest first. -/
def beL (x : Nat) : Nat → List UInt8
  | 0 => []
  | k + 1 => beL (x / 256) k ++ [UInt8.ofNat (x % 256)]
def beS (x k : Nat) : ByteArray := ⟨(beL x k).toArray⟩
theorem beL_length (x k : Nat) : (beL x k).length = k := by
  induction k generalizing x with
  | zero => rfl
  | succ k ih => simp [beL, ih]
theorem beS_size (x k : Nat) : (beS x k).size = k := by simp [beS, ByteArray.size, beL_length]
theorem beS_list (x k : Nat) : (beS x k).data.toList = beL x k := by simp [beS]
theorem and255 (x : Nat) (h : x < 9223372036854775808) : bits .and .i64 (x : Int) 255 = ((x % 256 : Nat) : Int) := by
  have hx : x &&& 255 < 2 ^ 63 := Nat.and_lt_two_pow _ (by omega)
  show IntKind.i64.wrap ((BitVec.ofInt 64 (x : Int) &&& BitVec.ofInt 64 ((255 : Nat) : Int)).toNat : Int) = _
  rw [BitVec.toNat_and, ofInt_u64 x (by omega), ofInt_u64 255 (by omega), nat_mask8] at *
  exact IntWalk.i64_in _ (by omega)
theorem and255i (y : Int) (h : 0 ≤ y) (h2 : y < 9223372036854775808) : bits .and .i64 y 255 % 256 = y % 256 := by
  obtain ⟨n, rfl⟩ := Int.eq_ofNat_of_zero_le h
  rw [and255 n (by omega)]; omega
theorem retS {s t : ByteArray} (h : s = t) : Ending.returned (.string s) = .returned (.string t) := by rw [h]

theorem lt4 {P : Nat → Prop} (h0 : P 0) (h1 : P 1) (h2 : P 2) (h3 : P 3) (i : Nat) (hi : i < 4) : P i := by
  match i, hi with
  | 0, _ => exact h0
  | 1, _ => exact h1
  | 2, _ => exact h2
  | 3, _ => exact h3
theorem beS4 (x : Nat) : strOfNums [(x : Int) / 256 / 256 / 256 % 256, (x : Int) / 256 / 256 % 256, (x : Int) / 256 % 256, (x : Int) % 256] = beS x 4 := by
  simp only [strOfNums, beS, beL, List.map, List.nil_append, List.cons_append]
  rw [show ((x : Int) / 256 / 256 / 256 % 256).toNat = x / 256 / 256 / 256 % 256 by omega, show ((x : Int) / 256 / 256 % 256).toNat = x / 256 / 256 % 256 by omega, show ((x : Int) / 256 % 256).toNat = x / 256 % 256 by omega, show ((x : Int) % 256).toNat = x % 256 by omega]
theorem makeN4 (w : World) : (Instr.makeSlice 35 (.int .i64 4) (.int .i64 4)).run Tryz.prog w = .ok (.slice (some ⟨w.heap.size, 0, none⟩) 4 4) (w.alloc (.cells #[.int .u8 0, .int .u8 0, .int .u8 0, .int .u8 0] 5)) := by kernel_rfl
set_option maxHeartbeats 2000000 in
set_option maxRecDepth 100000 in
theorem be_4 (x : Nat) (w : World) (hx : x < 4294967296) :
    Calls Tryz.prog 63 #[.int .i64 x, .int .i64 4] w fun e w' => e = .returned (.string (beS x 4)) ∧ Below w.heap.size w w' := by
  have hmk := makeN4
  have b0 : (x : Int) < 4611686018427387904 := by omega
  go_enter Tryz.func63, Tryz.ntmps63
  go_wp2
  go_rounds 5
  rw [run_convert_bytes_arg (P := Tryz.prog) _ 35 5 Tryz.underlying35 Tryz.underlying5 w.heap.size 0 4 4 [bits .and .i64 ((x : Int) / 256 / 256 / 256) 255 % 256, bits .and .i64 ((x : Int) / 256 / 256) 255 % 256, bits .and .i64 ((x : Int) / 256) 255 % 256, bits .and .i64 ((x : Int)) 255 % 256] rfl (lt4 (by simp [go_sem]) (by simp [go_sem]) (by simp [go_sem]) (by simp [go_sem])) 9 Tryz.underlying9]
  go_wp2
  go_ret
  refine ⟨retS ?_, Below.alloc (Below.refl _ _) (Nat.le_refl _) _⟩
  rw [and255i ((x : Int) / 256 / 256 / 256) (by omega) (by omega), and255i ((x : Int) / 256 / 256) (by omega) (by omega), and255i ((x : Int) / 256) (by omega) (by omega), and255i ((x : Int)) (by omega) (by omega)]
  exact beS4 x

theorem lt8 {P : Nat → Prop} (h0 : P 0) (h1 : P 1) (h2 : P 2) (h3 : P 3) (h4 : P 4) (h5 : P 5) (h6 : P 6) (h7 : P 7) (i : Nat) (hi : i < 8) : P i := by
  match i, hi with
  | 0, _ => exact h0
  | 1, _ => exact h1
  | 2, _ => exact h2
  | 3, _ => exact h3
  | 4, _ => exact h4
  | 5, _ => exact h5
  | 6, _ => exact h6
  | 7, _ => exact h7
theorem beS8 (x : Nat) : strOfNums [(x : Int) / 256 / 256 / 256 / 256 / 256 / 256 / 256 % 256, (x : Int) / 256 / 256 / 256 / 256 / 256 / 256 % 256, (x : Int) / 256 / 256 / 256 / 256 / 256 % 256, (x : Int) / 256 / 256 / 256 / 256 % 256, (x : Int) / 256 / 256 / 256 % 256, (x : Int) / 256 / 256 % 256, (x : Int) / 256 % 256, (x : Int) % 256] = beS x 8 := by
  simp only [strOfNums, beS, beL, List.map, List.nil_append, List.cons_append]
  rw [show ((x : Int) / 256 / 256 / 256 / 256 / 256 / 256 / 256 % 256).toNat = x / 256 / 256 / 256 / 256 / 256 / 256 / 256 % 256 by omega, show ((x : Int) / 256 / 256 / 256 / 256 / 256 / 256 % 256).toNat = x / 256 / 256 / 256 / 256 / 256 / 256 % 256 by omega, show ((x : Int) / 256 / 256 / 256 / 256 / 256 % 256).toNat = x / 256 / 256 / 256 / 256 / 256 % 256 by omega, show ((x : Int) / 256 / 256 / 256 / 256 % 256).toNat = x / 256 / 256 / 256 / 256 % 256 by omega, show ((x : Int) / 256 / 256 / 256 % 256).toNat = x / 256 / 256 / 256 % 256 by omega, show ((x : Int) / 256 / 256 % 256).toNat = x / 256 / 256 % 256 by omega, show ((x : Int) / 256 % 256).toNat = x / 256 % 256 by omega, show ((x : Int) % 256).toNat = x % 256 by omega]
theorem makeN8 (w : World) : (Instr.makeSlice 35 (.int .i64 8) (.int .i64 8)).run Tryz.prog w = .ok (.slice (some ⟨w.heap.size, 0, none⟩) 8 8) (w.alloc (.cells #[.int .u8 0, .int .u8 0, .int .u8 0, .int .u8 0, .int .u8 0, .int .u8 0, .int .u8 0, .int .u8 0] 5)) := by kernel_rfl
set_option maxHeartbeats 2000000 in
set_option maxRecDepth 100000 in
theorem be_8 (x : Nat) (w : World) (hx : x < 4611686018427387904) :
    Calls Tryz.prog 63 #[.int .i64 x, .int .i64 8] w fun e w' => e = .returned (.string (beS x 8)) ∧ Below w.heap.size w w' := by
  have hmk := makeN8
  have b0 : (x : Int) < 4611686018427387904 := by omega
  go_enter Tryz.func63, Tryz.ntmps63
  go_wp2
  go_rounds 9
  rw [run_convert_bytes_arg (P := Tryz.prog) _ 35 5 Tryz.underlying35 Tryz.underlying5 w.heap.size 0 8 8 [bits .and .i64 ((x : Int) / 256 / 256 / 256 / 256 / 256 / 256 / 256) 255 % 256, bits .and .i64 ((x : Int) / 256 / 256 / 256 / 256 / 256 / 256) 255 % 256, bits .and .i64 ((x : Int) / 256 / 256 / 256 / 256 / 256) 255 % 256, bits .and .i64 ((x : Int) / 256 / 256 / 256 / 256) 255 % 256, bits .and .i64 ((x : Int) / 256 / 256 / 256) 255 % 256, bits .and .i64 ((x : Int) / 256 / 256) 255 % 256, bits .and .i64 ((x : Int) / 256) 255 % 256, bits .and .i64 ((x : Int)) 255 % 256] rfl (lt8 (by simp [go_sem]) (by simp [go_sem]) (by simp [go_sem]) (by simp [go_sem]) (by simp [go_sem]) (by simp [go_sem]) (by simp [go_sem]) (by simp [go_sem])) 9 Tryz.underlying9]
  go_wp2
  go_ret
  refine ⟨retS ?_, Below.alloc (Below.refl _ _) (Nat.le_refl _) _⟩
  rw [and255i ((x : Int) / 256 / 256 / 256 / 256 / 256 / 256 / 256) (by omega) (by omega), and255i ((x : Int) / 256 / 256 / 256 / 256 / 256 / 256) (by omega) (by omega), and255i ((x : Int) / 256 / 256 / 256 / 256 / 256) (by omega) (by omega), and255i ((x : Int) / 256 / 256 / 256 / 256) (by omega) (by omega), and255i ((x : Int) / 256 / 256 / 256) (by omega) (by omega), and255i ((x : Int) / 256 / 256) (by omega) (by omega), and255i ((x : Int) / 256) (by omega) (by omega), and255i ((x : Int)) (by omega) (by omega)]
  exact beS8 x
end Go.Proofs.Be
/-
  The document's own answer: Ghash at every input, filled, a nonce's blocks over a text.
-/
namespace Go.Proofs.Gcm
open Go.RowKit
open Go.Proofs.Aes (byt byt_lt get_byt ciphS ciphS_size Keys cipher_any)
open Go.Proofs.Sha (rowIs_of)
def ghOk (h s : ByteArray) : Bool := decide (h.size = 16) && decide (s.size % 16 = 0)
def ghashS (h s : ByteArray) : ByteArray := bif ghOk h s then ghS h s else ⟨#[]⟩
def ghashE (h s : ByteArray) : Int := bif ghOk h s then 0 else 500
/-- m noughts as a text. -/
def zS (m : Nat) : ByteArray := strOfNums (List.replicate m 0)
theorem zS_size (m : Nat) : (zS m).size = m := by simp [zS, strOfNums_size]
theorem conv_new (W : World) (M : Array Value) (m : Nat) (hMc : ∀ i, i < m → M[i]? = some (.int .u8 0)) :
    (convert 35 9 (.slice (some ⟨W.heap.size, 0, none⟩) m m)).run Tryz.prog (W.alloc (.cells M 5)) = .ok (.string (zS m)) (W.alloc (.cells M 5)) :=
  run_convert_bytes_arg (P := Tryz.prog) _ 35 5 Tryz.underlying35 Tryz.underlying5 W.heap.size 0 m m (List.replicate m 0) (by simp) (fun i hi => by
    rw [World.cell?_alloc_at _ _ _ _ rfl, Nat.zero_add, List.getD_eq_getElem?_getD, List.getElem?_replicate, if_pos hi]; exact hMc i hi) 9 Tryz.underlying9
/-- With noughts to whole blocks. -/
def fillS (s : ByteArray) : ByteArray := s ++ zS ((16 - s.size % 16) % 16)
set_option maxHeartbeats 1000000 in
theorem filled_any (s : ByteArray) (w : World) (hs : s.size ≤ 140737488355328) :
    Calls Tryz.prog 59 #[.string s] w fun e w' => e = .returned (.string (fillS s)) ∧ Below w.heap.size w w' := by
  unfold fillS
  obtain ⟨k, hk⟩ : ∃ k, s.size % 16 = k := ⟨_, rfl⟩
  obtain ⟨m, hm⟩ : ∃ m, (16 - k) % 16 = m := ⟨_, rfl⟩
  rw [hk, hm]
  have m16 : m < 16 := by omega
  obtain ⟨M, _, hMc, hmk⟩ := zeros m (by omega)
  have hcv := fun W => conv_new W M m hMc
  have z1 := zS_size m
  have q0 : (s.size : Int) % 16 = (k : Int) := by omega
  have q1 : (16 - (k : Int)) % 16 = (m : Int) := by omega
  have k16 : (k : Int) < 16 := by omega
  have q2 : ¬ 9223372036854775807 < s.size + m := by omega
  clear hMc hk hm
  go_enter Tryz.func59, Tryz.ntmps59
  go_wp2_with (fail)
  go_ret
  exact ⟨rfl, (Below.refl _ _).alloc (Nat.le_refl _) _⟩
end Go.Proofs.Gcm
/-
  The document's own answer: a nonce's blocks over a text.
-/
namespace Go.Proofs.Gcm
open Go.RowKit
open Go.Proofs.Aes (byt byt_lt get_byt ciphS ciphS_size Keys cipher_any)
open Go.Proofs.Be (beS beS_size be_4)
open Go.Proofs.Sha (rowIs_of)
/-- The text's byte t under the nonce's blocks, counted from f on. -/
def ctrB (wk : Nat → Nat) (n : Nat) (nonce : ByteArray) (f : Nat) (s : ByteArray) (t : Nat) : Nat := byt s t ^^^ byt (ciphS wk n (nonce ++ beS (f + t / 16) 4)) (t % 16)
def ctrS (wk : Nat → Nat) (n : Nat) (nonce : ByteArray) (f : Nat) (s : ByteArray) : ByteArray := strOfNums ((List.range s.size).map fun t => (ctrB wk n nonce f s t : Int))
theorem ctrS_size (wk : Nat → Nat) (n : Nat) (nonce : ByteArray) (f : Nat) (s : ByteArray) : (ctrS wk n nonce f s).size = s.size := by simp [ctrS, strOfNums_size]
theorem Keys.below {w u : World} {b len : Nat} {wk : Nat → Nat} (h : Keys w b len wk) (hb : b < w.heap.size) (hbl : Below w.heap.size w u) : Keys u b len wk := fun i hi => (hbl.cell (p := ⟨b, i, none⟩) hb).trans (h i hi)
theorem meas16 (z m : Nat) (h : m < z) : z + 16 - (intOf (.int .i64 ((m : Int) + 16))).toNat < z + 16 - (intOf (.int .i64 (m : Int))).toNat := by
  show z + 16 - ((m : Int) + 16).toNat < z + 16 - (m : Int).toNat
  omega
set_option maxHeartbeats 2000000 in
set_option maxRecDepth 10000 in
theorem counter_any (wk : Nat → Nat) (b len cap n f : Nat) (nonce s : ByteArray) (w : World) (hl : len = 4 * (n + 1)) (hn : 1 ≤ n) (hn2 : n ≤ 14) (hb : b < w.heap.size) (hc : Keys w b len wk) (hw : ∀ i, wk i < 256) (hno : nonce.size = 12) (hf : f ≤ 2) (hs : s.size ≤ 100000) :
    Calls Tryz.prog 37 #[.slice (some ⟨b, 0, none⟩) len cap, .string nonce, .int .i64 f, .string s] w fun e w' => e = .returned (.string (ctrS wk n nonce f s)) ∧ Below w.heap.size w w' := by
  have HLn := Lib.hid hl
  have HN := Lib.hid hn
  have HN2 := Lib.hid hn2
  have HBl := Lib.hid hb
  have HK := Lib.hid hc
  have HW := Lib.hid hw
  have HNo := Lib.hid hno
  obtain ⟨M, hM, hMc, hmk⟩ := zeros s.size (by omega)
  have R0 : Hid (RowB (w.alloc (.cells M 5)) w.heap.size s.size (fun _ => 0)) := rowIs_of w M 5 s.size _ hM hMc
  have B0 : Hid (Below w.heap.size w (w.alloc (.cells M 5))) := (Below.refl _ w).alloc (Nat.le_refl _) _
  clear hl hn hn2 hb hc hw hM hMc
  go_enter Tryz.func37, Tryz.ntmps37
  go_wp2_with (fail)
  clear hmk
  generalize w.alloc (.cells M 5) = w1 at R0 B0 ⊢
  go_loopw [10] (fun vi wx => ∃ (m : Nat) (X : Nat → Nat), Hid (m % 16 = 0 ∧ m < s.size + 16) ∧ vi = .int .i64 m ∧ Hid (∀ t, t < m → t < s.size → X t = ctrB wk n nonce f s t) ∧ Hid (RowB wx w.heap.size s.size X) ∧ Hid (Below w.heap.size w wx)) (fun i _ => s.size + 16 - (intOf i).toNat)
  case atStart => exact ⟨0, fun _ => 0, ⟨rfl, by omega⟩, rfl, fun t ht => absurd ht (Nat.not_lt_zero t), R0, B0⟩
  case round =>
    clear R0 B0
    obtain ⟨m, X, hm, rfl, hx, HR, HB⟩ := hrel
    by_cases hlt : m < s.size
    · have ml : ((m : Int) < (s.size : Int)) = True := eq_true (by omega)
      have ml2 : (m < s.size) = True := eq_true hlt
      have HM := Lib.hid hlt
      obtain ⟨x, hxe⟩ : ∃ x, f + m / 16 = x := ⟨_, rfl⟩
      have q1 : (f : Int) + (m : Int) / 16 = (x : Int) := by omega
      have HXe := Lib.hid hxe
      have HXl : Hid (x < 4294967296) := by show x < 4294967296; omega
      have z4 := beS_size x 4
      clear hxe
      go_wp2_with (fail)
      refine (be_4 x _ HXl.out).mono ?_
      rintro e u ⟨rfl, hbu⟩
      have HB1 : Hid (Below w.heap.size w u) := HB.out.trans (hbu.mono HB.out.size)
      have HR1 : Hid (RowB u w.heap.size s.size X) := World.rowIs.of_block HR.out (hbu.block _ HR.out.lt)
      have HZ : Hid ((nonce ++ beS x 4).size = 16) := by show (nonce ++ beS x 4).size = 16; rw [ByteArray.size_append, z4, HNo.out]
      clear hbu HB HR
      go_wp2_with (fail)
      refine (cipher_any wk b len cap n (nonce ++ beS x 4) _ HLn.out HN.out HN2.out HZ.out (Nat.lt_of_lt_of_le HBl.out HB1.out.size) (Keys.below HK.out HBl.out HB1.out) HW.out).mono ?_
      rintro e v ⟨rfl, hbv⟩
      have HB2 : Hid (Below w.heap.size w v) := HB1.out.trans (hbv.mono HB1.out.size)
      have HR2 : Hid (RowB v w.heap.size s.size X) := World.rowIs.of_block HR1.out (hbv.block _ HR1.out.lt)
      have cz := ciphS_size wk n (nonce ++ beS x 4)
      have HCt : Hid (∀ j, j < 16 → ctrB wk n nonce f s (m + j) = byt s (m + j) ^^^ byt (ciphS wk n (nonce ++ beS x 4)) j) := fun j hj => by
        unfold ctrB
        rw [show f + (m + j) / 16 = x by have := HXe.out; have := hm.out.1; omega, show (m + j) % 16 = j by have := hm.out.1; omega]
      generalize ciphS wk n (nonce ++ beS x 4) = C at cz HCt ⊢
      clear hbv HB1 HR1 z4
      go_wp2_with (fail)
      clear ml ml2
      go_loopw [12] (fun vj wx => ∃ (j : Nat) (Y : Nat → Nat), Hid (j ≤ 16 ∧ m + j ≤ s.size) ∧ vj = .int .i64 j ∧ Hid (∀ t, t < m + j → Y t = ctrB wk n nonce f s t) ∧ Hid (RowB wx w.heap.size s.size Y) ∧ Hid (Below w.heap.size w wx)) (fun j _ => 16 - (intOf j).toNat)
      case atStart => exact ⟨0, X, ⟨by decide, Nat.le_of_lt HM.out⟩, rfl, fun t ht => hx.out t ht (Nat.lt_of_lt_of_le ht (Nat.le_of_lt HM.out)), HR2, HB2⟩
      case round =>
        clear HR2 HB2 hx
        obtain ⟨j, Y, hj, rfl, hy, HR, HB⟩ := hrel
        have hj1 := hj.out.1
        have hj2 := hj.out.2
        by_cases h16 : j < 16
        · have jl : ((j : Int) < 16) = True := eq_true (by omega)
          by_cases hms : m + j < s.size
          · have j1 : ((m : Int) + (j : Int) < (s.size : Int)) = True := eq_true (by omega)
            have HJ := Lib.hid h16
            have HMs := Lib.hid hms
            have jc : (j : Int) < (C.size : Int) := by omega
            have p1 : (0 : Int) ≤ (m : Int) + j := by omega
            have t1 : ((m : Int) + (j : Int)).toNat = m + j := by omega
            have cc := World.rowIs.cell HR.out (i := m + j) hms
            have cf := World.rowIs.frozen HR.out (m + j)
            have w1 : IntKind.i64.wrap ((m : Int) + (j : Int)) = (m : Int) + j := IntWalk.i64_in _ (by omega)
            have vs : ∀ h : m + j < s.size, (s[m + j]'h).toNat = byt s (m + j) := fun h => get_byt s _ h
            have vc : ∀ h : j < C.size, (C[j]'h).toNat = byt C j := fun h => get_byt C _ h
            clear h16 hms
            go_wp2_with (fail)
            refine wp_region_still_tail 14 (by kernel_rfl) (by kernel_rfl) ?_
            simp only [List.take_succ_cons, List.take_zero, List.drop_succ_cons, List.drop_zero]
            repeat still_step
            try refine wpStill_nil ?_
            change wpList _ _ _ _ _ wr.drew
            clear w1 t1 p1 vs vc
            go_wp2_with (fail)
            rw [Aes.u8_xor _ _ (byt_lt s (m + j)) (byt_lt C j)]
            refine ⟨⟨j + 1, fun i => if i = m + j then byt s (m + j) ^^^ byt C j else Y i, ⟨HJ.out, HMs.out⟩, by go_num, fun t ht => ?_, World.rowIs.drew (HR.out.set (m + j) _), (HB.out.setCell (Nat.le_refl _) _).drew⟩, meas 16 j HJ.out⟩
            show (if t = m + j then _ else Y t) = _
            by_cases e : t = m + j
            · rw [if_pos e, e]; exact (HCt.out j HJ.out).symm
            · rw [if_neg e]; exact hy.out t (by omega)
          · have j1 : ((m : Int) + (j : Int) < (s.size : Int)) = False := eq_false (by omega)
            have j2 : decide ((m : Int) + (j : Int) < (s.size : Int)) = false := decide_eq_false (by omega)
            have j3 : (m + j < s.size) = False := eq_false hms
            have HE : Hid (∀ t, t < m + 16 → t < s.size → Y t = ctrB wk n nonce f s t) := fun t _ ht => hy.out t (by omega)
            clear h16 hms hj hy
            go_wp2_with (fail)
            exact ⟨⟨m + 16, Y, ⟨by have := hm.out.1; omega, by have := HM.out; omega⟩, by go_num, HE, HR, HB⟩, meas16 s.size m HM.out⟩
        · have jl : ((j : Int) < 16) = False := eq_false (by omega)
          have HE : Hid (∀ t, t < m + 16 → t < s.size → Y t = ctrB wk n nonce f s t) := fun t ht _ => hy.out t (by omega)
          clear h16 hj hj1 hj2 hy
          go_wp2_with (fail)
          exact ⟨⟨m + 16, Y, ⟨by have := hm.out.1; omega, by have := HM.out; omega⟩, by go_num, HE, HR, HB⟩, meas16 s.size m HM.out⟩
    · have ml : ((m : Int) < (s.size : Int)) = False := eq_false (by omega)
      have ml2 : (m < s.size) = False := eq_false hlt
      have X1 : Hid (RowB wr w.heap.size s.size (ctrB wk n nonce f s)) := HR.out.congr fun t ht => hx.out t (by omega) ht
      have hcv : (convert 35 9 (.slice (some ⟨w.heap.size, 0, none⟩) s.size s.size)).run Tryz.prog wr = .ok (.string (ctrS wk n nonce f s)) wr :=
        run_convert_bytes_arg (P := Tryz.prog) _ 35 5 Tryz.underlying35 Tryz.underlying5 w.heap.size 0 s.size s.size _ (by simp) (fun i hi => by
          have := World.rowIs.cell X1.out (i := i) hi
          rw [Nat.zero_add, this]
          simp [List.getD_eq_getElem?_getD, List.getElem?_range hi]) 9 Tryz.underlying9
      clear hlt hx
      go_wp2_with (fail)
      go_ret
      exact ⟨rfl, HB.out⟩
end Go.Proofs.Gcm
