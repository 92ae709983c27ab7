/-
  The document's own answer: a text under ChaCha20's stream; Block and Xor at every input.
-/
import Derived.Test.YtljhenjbjondkaaGreatJoai
import Derived.KernelRfl
namespace Go.Proofs.Cha
open Go.RowKit
open Go.Proofs.Aes (byt byt_lt get_byt)
open Go.Proofs.Sha (rowIs_of)
open Go.Proofs.Lw (meas)
/-- Byte t of the text under the stream. -/
def strB (key : ByteArray) (cnt : Nat) (nonce s : ByteArray) (t : Nat) : Nat := byt s t ^^^ byt (chaS key ((cnt + t / 64) % 4294967296) nonce) (t % 64)
def strS (key : ByteArray) (cnt : Nat) (nonce s : ByteArray) : ByteArray := strOfNums ((List.range s.size).map fun t => (strB key cnt nonce s t : Int))
theorem strS_size (key : ByteArray) (cnt : Nat) (nonce s : ByteArray) : (strS key cnt nonce s).size = s.size := by simp [strS, strOfNums_size]
theorem meas64 (z m : Nat) (h : m < z) : z + 64 - (intOf (.int .i64 ((m : Int) + 64))).toNat < z + 64 - (intOf (.int .i64 (m : Int))).toNat := by
  show z + 64 - ((m : Int) + 64).toNat < z + 64 - (m : Int).toNat
  omega
set_option maxHeartbeats 2000000 in
set_option maxRecDepth 10000 in
theorem stream_any (key : ByteArray) (cnt : Nat) (nonce s : ByteArray) (w : World) (hk : key.size = 32) (hno : nonce.size = 12) (hc : cnt < 4294967296) (hs : s.size ≤ 100000) :
    Calls Tryz.prog 33 #[.string key, .int .u32 cnt, .string nonce, .string s] w fun e w' => e = .returned (.string (strS key cnt nonce s)) ∧ Below w.heap.size w w' := by
  have HKs := Lib.hid hk
  have HNo := Lib.hid hno
  have HCn := Lib.hid hc
  obtain ⟨M, hM, hMc, hmk⟩ := Lw.zeros s.size (by omega)
  have R0 : Hid (Lw.RowB (w.alloc (.cells M 5)) w.heap.size s.size (fun _ => 0)) := rowIs_of w M 5 s.size _ hM hMc
  have B0 : Hid (Below w.heap.size w (w.alloc (.cells M 5))) := (Below.refl _ w).alloc (Nat.le_refl _) _
  clear hk hno hM hMc
  go_enter Tryz.func33, Tryz.ntmps33
  go_wp2_with (fail)
  clear hmk
  generalize w.alloc (.cells M 5) = w1 at R0 B0 ⊢
  go_loopw [10] (fun vi wx => ∃ (m : Nat) (X : Nat → Nat), Hid (m % 64 = 0 ∧ m < s.size + 64) ∧ vi = .int .i64 m ∧ Hid (∀ t, t < m → t < s.size → X t = strB key cnt nonce s t) ∧ Hid (Lw.RowB wx w.heap.size s.size X) ∧ Hid (Below w.heap.size w wx)) (fun i _ => s.size + 64 - (intOf i).toNat)
  case atStart => exact ⟨0, fun _ => 0, ⟨rfl, by omega⟩, rfl, fun t ht => absurd ht (Nat.not_lt_zero t), R0, B0⟩
  case round =>
    clear R0 B0
    obtain ⟨m, X, hm, rfl, hx, HR, HB⟩ := hrel
    by_cases hlt : m < s.size
    · have ml : ((m : Int) < (s.size : Int)) = True := eq_true (by omega)
      have ml2 : (m < s.size) = True := eq_true hlt
      have HM := Lib.hid hlt
      obtain ⟨x, hxe⟩ : ∃ x, (cnt + m / 64) % 4294967296 = x := ⟨_, rfl⟩
      have HXe := Lib.hid hxe
      have q0 : (m : Int) / 64 = ((m / 64 : Nat) : Int) := by omega
      have q1 : IntKind.u32.wrap ((m / 64 : Nat) : Int) = ((m / 64 : Nat) : Int) := by show _ % 4294967296 = _; omega
      have q2 : ((m / 64 : Nat) : Int) % 4294967296 = ((m / 64 : Nat) : Int) := by omega
      have q3 : ((cnt : Int) + ((m / 64 : Nat) : Int)) % 4294967296 = (x : Int) := by omega
      have q4 : IntKind.i64.wrap ((m / 64 : Nat) : Int) = ((m / 64 : Nat) : Int) := IntWalk.i64_in _ (by omega)
      have HXl : Hid (x < 4294967296) := by show x < 4294967296; omega
      clear hxe
      generalize m / 64 = y at q0 q1 q2 q3 q4
      go_wp2_with (fail)
      refine (chacha_any key x nonce _ HKs.out HNo.out HXl.out).mono ?_
      rintro e v ⟨rfl, hbv⟩
      have HB2 : Hid (Below w.heap.size w v) := HB.out.trans (hbv.mono HB.out.size)
      have HR2 : Hid (Lw.RowB v w.heap.size s.size X) := World.rowIs.of_block HR.out (hbv.block _ HR.out.lt)
      have cz := chaS_size key x nonce
      have HCt : Hid (∀ j, j < 64 → strB key cnt nonce s (m + j) = byt s (m + j) ^^^ byt (chaS key x nonce) j) := fun j hj => by
        unfold strB
        rw [show (m + j) / 64 = m / 64 by have := hm.out.1; omega, show (cnt + m / 64) % 4294967296 = x from HXe.out, show (m + j) % 64 = j by have := hm.out.1; omega]
      generalize chaS key x nonce = C at cz HCt ⊢
      clear hbv HB HR q0 q1 q2 q3 q4
      go_wp2_with (fail)
      clear ml ml2
      go_loopw [12] (fun vj wx => ∃ (j : Nat) (Y : Nat → Nat), Hid (j ≤ 64 ∧ m + j ≤ s.size) ∧ vj = .int .i64 j ∧ Hid (∀ t, t < m + j → Y t = strB key cnt nonce s t) ∧ Hid (Lw.RowB wx w.heap.size s.size Y) ∧ Hid (Below w.heap.size w wx)) (fun j _ => 64 - (intOf j).toNat)
      case atStart => exact ⟨0, X, ⟨by decide, Nat.le_of_lt HM.out⟩, rfl, fun t ht => hx.out t ht (Nat.lt_of_lt_of_le ht (Nat.le_of_lt HM.out)), HR2, HB2⟩
      case round =>
        clear HR2 HB2 hx
        obtain ⟨j, Y, hj, rfl, hy, HR, HB⟩ := hrel
        have hj1 := hj.out.1
        have hj2 := hj.out.2
        by_cases h64 : j < 64
        · have jl : ((j : Int) < 64) = True := eq_true (by omega)
          by_cases hms : m + j < s.size
          · have j1 : ((m : Int) + (j : Int) < (s.size : Int)) = True := eq_true (by omega)
            have HJ := Lib.hid h64
            have HMs := Lib.hid hms
            have jc : (j : Int) < (C.size : Int) := by omega
            have p1 : (0 : Int) ≤ (m : Int) + j := by omega
            have t1 : ((m : Int) + (j : Int)).toNat = m + j := by omega
            have cc := World.rowIs.cell HR.out (i := m + j) hms
            have cf := World.rowIs.frozen HR.out (m + j)
            have w1 : IntKind.i64.wrap ((m : Int) + (j : Int)) = (m : Int) + j := IntWalk.i64_in _ (by omega)
            have vs : ∀ h : m + j < s.size, (s[m + j]'h).toNat = byt s (m + j) := fun h => get_byt s _ h
            have vc : ∀ h : j < C.size, (C[j]'h).toNat = byt C j := fun h => get_byt C _ h
            clear h64 hms
            go_wp2_with (fail)
            refine wp_region_still_tail 14 (by kernel_rfl) (by kernel_rfl) ?_
            simp only [List.take_succ_cons, List.take_zero, List.drop_succ_cons, List.drop_zero]
            repeat still_step
            try refine wpStill_nil ?_
            change wpList _ _ _ _ _ wr.drew
            clear w1 t1 p1 vs vc
            go_wp2_with (fail)
            rw [Aes.u8_xor _ _ (byt_lt s (m + j)) (byt_lt C j)]
            refine ⟨⟨j + 1, fun i => if i = m + j then byt s (m + j) ^^^ byt C j else Y i, ⟨HJ.out, HMs.out⟩, by go_num, fun t ht => ?_, World.rowIs.drew (HR.out.set (m + j) _), (HB.out.setCell (Nat.le_refl _) _).drew⟩, meas 64 j HJ.out⟩
            show (if t = m + j then _ else Y t) = _
            by_cases e : t = m + j
            · rw [if_pos e, e]; exact (HCt.out j HJ.out).symm
            · rw [if_neg e]; exact hy.out t (by omega)
          · have j1 : ((m : Int) + (j : Int) < (s.size : Int)) = False := eq_false (by omega)
            have j2 : decide ((m : Int) + (j : Int) < (s.size : Int)) = false := decide_eq_false (by omega)
            have j3 : (m + j < s.size) = False := eq_false hms
            have HE : Hid (∀ t, t < m + 64 → t < s.size → Y t = strB key cnt nonce s t) := fun t _ ht => hy.out t (by omega)
            clear h64 hms hj hy
            go_wp2_with (fail)
            exact ⟨⟨m + 64, Y, ⟨by have := hm.out.1; omega, by have := HM.out; omega⟩, by go_num, HE, HR, HB⟩, meas64 s.size m HM.out⟩
        · have jl : ((j : Int) < 64) = False := eq_false (by omega)
          have HE : Hid (∀ t, t < m + 64 → t < s.size → Y t = strB key cnt nonce s t) := fun t ht _ => hy.out t (by omega)
          clear h64 hj hj1 hj2 hy
          go_wp2_with (fail)
          exact ⟨⟨m + 64, Y, ⟨by have := hm.out.1; omega, by have := HM.out; omega⟩, by go_num, HE, HR, HB⟩, meas64 s.size m HM.out⟩
    · have ml : ((m : Int) < (s.size : Int)) = False := eq_false (by omega)
      have ml2 : (m < s.size) = False := eq_false hlt
      have X1 : Hid (Lw.RowB wr w.heap.size s.size (strB key cnt nonce s)) := HR.out.congr fun t ht => hx.out t (by omega) ht
      have hcv : (convert 35 9 (.slice (some ⟨w.heap.size, 0, none⟩) s.size s.size)).run Tryz.prog wr = .ok (.string (strS key cnt nonce s)) wr :=
        run_convert_bytes_arg (P := Tryz.prog) _ 35 5 Tryz.underlying35 Tryz.underlying5 w.heap.size 0 s.size s.size _ (by simp) (fun i hi => by
          have := World.rowIs.cell X1.out (i := i) hi
          rw [Nat.zero_add, this]
          simp [List.getD_eq_getElem?_getD, List.getElem?_range hi]) 9 Tryz.underlying9
      clear hlt hx
      go_wp2_with (fail)
      go_ret
      exact ⟨rfl, HB.out⟩
end Go.Proofs.Cha
/-
  ChaCha20: which calls have a form, and what they answer. Of no program.
-/
namespace Go.Proofs.Cha
/-- P6.1's form; P6.2's. -/
def chaOk (key : ByteArray) (cnt : Int) (nonce : ByteArray) : Bool := decide (key.size = 32) && (decide (0 ≤ cnt) && (decide (cnt ≤ 4294967295) && decide (nonce.size = 12)))
def xorOk (key : ByteArray) (cnt : Int) (nonce s : ByteArray) : Bool := chaOk key cnt nonce && decide (s.size ≤ 65536)
def blkS (key : ByteArray) (cnt : Int) (nonce : ByteArray) : ByteArray := bif chaOk key cnt nonce then chaS key cnt.toNat nonce else ⟨#[]⟩
def blkE (key : ByteArray) (cnt : Int) (nonce : ByteArray) : Int := bif chaOk key cnt nonce then 0 else 600
def xorS (key : ByteArray) (cnt : Int) (nonce s : ByteArray) : ByteArray := bif xorOk key cnt nonce s then strS key cnt.toNat nonce s else ⟨#[]⟩
def xorE (key : ByteArray) (cnt : Int) (nonce s : ByteArray) : Int := bif xorOk key cnt nonce s then 0 else 600
theorem chaOk_iff (key : ByteArray) (cnt : Int) (nonce : ByteArray) : chaOk key cnt nonce = true ↔ key.size = 32 ∧ 0 ≤ cnt ∧ cnt ≤ 4294967295 ∧ nonce.size = 12 := by unfold chaOk; simp
theorem xorOk_iff (key : ByteArray) (cnt : Int) (nonce s : ByteArray) : xorOk key cnt nonce s = true ↔ (key.size = 32 ∧ 0 ≤ cnt ∧ cnt ≤ 4294967295 ∧ nonce.size = 12) ∧ s.size ≤ 65536 := by unfold xorOk; rw [Bool.and_eq_true, chaOk_iff]; simp
end Go.Proofs.Cha
/-
  ChaCha20 as plain functions: twice is as nothing, texts in parts, noughts; a published block by the kernel.
-/
namespace Go.Proofs.Cha
open Go.RowKit
open Go.Proofs.Aes (byt byt_lt get_byt)
theorem byt_nums (f : Nat → Nat) (m t : Nat) (h : t < m) (hf : f t < 256) : byt (strOfNums ((List.range m).map fun t => (f t : Int))) t = f t := by
  unfold byt strOfNums
  rw [List.getD_eq_getElem?_getD]
  simp [h]
  omega
/-- Two texts of one length whose bytes are the same. -/
theorem text_ext {a b : ByteArray} (hs : a.size = b.size) (h : ∀ t, t < a.size → byt a t = byt b t) : a = b := by
  apply ByteArray.ext
  apply Array.ext hs
  intro i h1 h2
  have e := h i h1
  rw [← get_byt a i h1, ← get_byt b i h2] at e
  exact UInt8.toNat_inj.1 e
theorem strB_lt (key : ByteArray) (cnt : Nat) (nonce s : ByteArray) (t : Nat) : strB key cnt nonce s t < 256 := Aes.xor8_lt (byt_lt _ _) (byt_lt _ _)
theorem strS_byt (key : ByteArray) (cnt : Nat) (nonce s : ByteArray) (t : Nat) (h : t < s.size) : byt (strS key cnt nonce s) t = strB key cnt nonce s t := byt_nums _ _ _ h (strB_lt _ _ _ _ _)
/-- Twice is as nothing. -/
theorem strS_twice (key : ByteArray) (cnt : Nat) (nonce s : ByteArray) : strS key cnt nonce (strS key cnt nonce s) = s := by
  refine text_ext (by rw [strS_size, strS_size]) fun t ht => ?_
  rw [strS_size, strS_size] at ht
  rw [strS_byt _ _ _ _ _ (by rw [strS_size]; exact ht)]
  unfold strB
  rw [strS_byt _ _ _ _ _ ht]
  unfold strB
  rw [Nat.xor_assoc, Nat.xor_self, Nat.xor_zero]
theorem byt_left (a b : ByteArray) (t : Nat) (h : t < a.size) : byt (a ++ b) t = byt a t := by
  rw [← get_byt (a ++ b) t (by rw [ByteArray.size_append]; omega), ← get_byt a t h]
  congr 1
  exact ByteArray.getElem_append_left h
theorem byt_right (a b : ByteArray) (t : Nat) (h : a.size ≤ t) (h' : t < a.size + b.size) : byt (a ++ b) t = byt b (t - a.size) := by
  rw [← get_byt (a ++ b) t (by rw [ByteArray.size_append]; omega), ← get_byt b (t - a.size) (by omega)]
  congr 1
  exact ByteArray.getElem_append_right h
theorem byt_cut (s : ByteArray) (a b t : Nat) (h : a + t < b) (hb : b ≤ s.size) : byt (s.extract a b) t = byt s (a + t) := by
  rw [← get_byt (s.extract a b) t (by rw [ByteArray.size_extract]; omega), ← get_byt s (a + t) (by omega)]
  congr 1
  exact ByteArray.getElem_extract _
/-- A text in parts at a block's end. -/
theorem strS_parts (key : ByteArray) (cnt : Nat) (nonce s : ByteArray) (b : Nat) (h : 64 * b ≤ s.size) :
    strS key cnt nonce (s.extract 0 (64 * b)) ++ strS key ((cnt + b) % 4294967296) nonce (s.extract (64 * b) s.size) = strS key cnt nonce s := by
  have z1 : (s.extract 0 (64 * b)).size = 64 * b := by rw [ByteArray.size_extract]; omega
  have z2 : (s.extract (64 * b) s.size).size = s.size - 64 * b := by rw [ByteArray.size_extract]; omega
  have zz : (strS key cnt nonce (s.extract 0 (64 * b)) ++ strS key ((cnt + b) % 4294967296) nonce (s.extract (64 * b) s.size)).size = s.size := by
    rw [ByteArray.size_append, strS_size, strS_size, z1, z2]; omega
  refine text_ext (by rw [zz, strS_size]) fun t ht => ?_
  rw [zz] at ht
  rw [strS_byt _ _ _ s t ht]
  by_cases hl : t < 64 * b
  · rw [byt_left _ _ _ (by rw [strS_size, z1]; exact hl), strS_byt _ _ _ _ _ (by rw [z1]; exact hl)]
    unfold strB
    rw [byt_cut s 0 (64 * b) t (by omega) h, Nat.zero_add]
  · rw [byt_right _ _ _ (by rw [strS_size, z1]; omega) (by rw [strS_size, strS_size, z1, z2]; omega), strS_size, z1, strS_byt _ _ _ _ _ (by rw [z2]; omega)]
    unfold strB
    rw [byt_cut s (64 * b) s.size (t - 64 * b) (by omega) (Nat.le_refl _), show 64 * b + (t - 64 * b) = t by omega, show (t - 64 * b) % 64 = t % 64 by omega]
    congr 3
    rw [show t / 64 = b + (t - 64 * b) / 64 by omega]
    omega
/-- The blocks, one behind the other. -/
def blocksS (key : ByteArray) (cnt : Nat) (nonce : ByteArray) : Nat → ByteArray
  | 0 => ⟨#[]⟩
  | i + 1 => blocksS key cnt nonce i ++ chaS key ((cnt + i) % 4294967296) nonce
theorem blocksS_size (key : ByteArray) (cnt : Nat) (nonce : ByteArray) (i : Nat) : (blocksS key cnt nonce i).size = 64 * i := by
  induction i with
  | zero => rfl
  | succ i ih => show (blocksS key cnt nonce i ++ _).size = _; rw [ByteArray.size_append, ih, chaS_size]; omega
theorem blocksS_byt (key : ByteArray) (cnt : Nat) (nonce : ByteArray) (i t : Nat) (h : t < 64 * i) : byt (blocksS key cnt nonce i) t = byt (chaS key ((cnt + t / 64) % 4294967296) nonce) (t % 64) := by
  induction i with
  | zero => omega
  | succ i ih =>
    show byt (blocksS key cnt nonce i ++ _) t = _
    by_cases hl : t < 64 * i
    · rw [byt_left _ _ _ (by rw [blocksS_size]; exact hl), ih hl]
    · rw [byt_right _ _ _ (by rw [blocksS_size]; omega) (by rw [blocksS_size, chaS_size]; omega), blocksS_size, show t / 64 = i by omega, show t % 64 = t - 64 * i by omega]
theorem strS_noughts (key : ByteArray) (cnt : Nat) (nonce s : ByteArray) (m : Nat) (hs : s.size = 64 * m) (h0 : ∀ t, t < s.size → byt s t = 0) : strS key cnt nonce s = blocksS key cnt nonce m := by
  refine text_ext (by rw [strS_size, blocksS_size, hs]) fun t ht => ?_
  rw [strS_size] at ht
  rw [strS_byt _ _ _ _ _ ht, blocksS_byt _ _ _ _ _ (by omega)]
  unfold strB
  rw [h0 t ht, Nat.zero_xor]
/-- By lists, for the kernel. -/
def toL (f : Nat → Nat) (n : Nat) : List Nat := (List.range n).map f
def ofL (l : List Nat) : Nat → Nat := fun i => l.getD i 0
theorem ofL_toL (f : Nat → Nat) (n i : Nat) (h : i < n) : ofL (toL f n) i = f i := by
  unfold ofL toL; rw [List.getD_eq_getElem?_getD, List.getElem?_map, List.getElem?_range h]; rfl
theorem put_congr {X Y : Nat → Nat} (h : ∀ t, t < 16 → X t = Y t) {v v' : Nat} (hv : v = v') (i t : Nat) (ht : t < 16) : put X i v t = put Y i v' t := by
  unfold put; rw [hv, h t ht]
theorem q1_congr {X Y : Nat → Nat} (h : ∀ t, t < 16 → X t = Y t) (a b : Nat) (ha : a < 16) (hb : b < 16) (t : Nat) (ht : t < 16) : q1 X a b t = q1 Y a b t :=
  put_congr h (by rw [h a ha, h b hb]) a t ht
theorem q2_congr {X Y : Nat → Nat} (h : ∀ t, t < 16 → X t = Y t) (d a k : Nat) (hd : d < 16) (ha : a < 16) (t : Nat) (ht : t < 16) : q2 X d a k t = q2 Y d a k t :=
  put_congr h (by rw [h a ha, h d hd]) d t ht
theorem quart_congr {X Y : Nat → Nat} (h : ∀ t, t < 16 → X t = Y t) (a b c d : Nat) (ha : a < 16) (hb : b < 16) (hc : c < 16) (hd : d < 16) (t : Nat) (ht : t < 16) : quart X a b c d t = quart Y a b c d t := by
  unfold quart
  have s1 := q1_congr h a b ha hb
  have s2 := q2_congr s1 d a 16 hd ha
  have s3 := q1_congr s2 c d hc hd
  have s4 := q2_congr s3 b c 12 hb hc
  have s5 := q1_congr s4 a b ha hb
  have s6 := q2_congr s5 d a 8 hd ha
  have s7 := q1_congr s6 c d hc hd
  exact q2_congr s7 b c 7 hb hc t ht
def colL (l : List Nat) : Nat → List Nat
  | 0 => l
  | i + 1 => toL (quart (ofL (colL l i)) i (4 + i) (8 + i) (12 + i)) 16
def diaL (l : List Nat) : Nat → List Nat
  | 0 => l
  | i + 1 => toL (quart (ofL (diaL l i)) i (4 + (i + 1) % 4) (8 + (i + 2) % 4) (12 + (i + 3) % 4)) 16
def rndL (l : List Nat) : Nat → List Nat
  | 0 => l
  | r + 1 => diaL (colL (rndL l r) 4) 4
theorem colL_eq {X : Nat → Nat} {l : List Nat} (h : ∀ t, t < 16 → ofL l t = X t) (i : Nat) (hi : i ≤ 4) (t : Nat) (ht : t < 16) : ofL (colL l i) t = colR X i t := by
  induction i generalizing t with
  | zero => exact h t ht
  | succ i ih =>
    show ofL (toL _ 16) t = quart _ _ _ _ _ t
    rw [ofL_toL _ _ _ ht]
    exact quart_congr (fun t ht => ih (by omega) t ht) _ _ _ _ (by omega) (by omega) (by omega) (by omega) t ht
theorem diaL_eq {X : Nat → Nat} {l : List Nat} (h : ∀ t, t < 16 → ofL l t = X t) (i : Nat) (hi : i ≤ 4) (t : Nat) (ht : t < 16) : ofL (diaL l i) t = diaR X i t := by
  induction i generalizing t with
  | zero => exact h t ht
  | succ i ih =>
    show ofL (toL _ 16) t = quart _ _ _ _ _ t
    rw [ofL_toL _ _ _ ht]
    exact quart_congr (fun t ht => ih (by omega) t ht) _ _ _ _ (by omega) (by omega) (by omega) (by omega) t ht
theorem rndL_eq {X : Nat → Nat} {l : List Nat} (h : ∀ t, t < 16 → ofL l t = X t) (r t : Nat) (ht : t < 16) : ofL (rndL l r) t = rndR X r t := by
  induction r generalizing t with
  | zero => exact h t ht
  | succ r ih => exact diaL_eq (fun t ht => colL_eq (fun t ht => ih t ht) 4 (by decide) t ht) 4 (by decide) t ht
def z32 : ByteArray := ⟨#[0, 0, 0, 0, 0, 0, 0, 0, 0, 0, 0, 0, 0, 0, 0, 0, 0, 0, 0, 0, 0, 0, 0, 0, 0, 0, 0, 0, 0, 0, 0, 0]⟩
def z12 : ByteArray := ⟨#[0, 0, 0, 0, 0, 0, 0, 0, 0, 0, 0, 0]⟩
set_option maxRecDepth 100000 in
theorem word0 : add32 (ini z32 0 z12 0) (ofL (rndL (toL (ini z32 0 z12) 16) 10) 0) = 2917185654 := by kernel_rfl
theorem first (t : Nat) (h : t < 4) : chaB (ini z32 0 z12) t = 2917185654 / 256 ^ t % 256 := by
  unfold chaB
  rw [show t / 4 = 0 by omega, show t % 4 = t by omega, ← rndL_eq (X := ini z32 0 z12) (l := toL (ini z32 0 z12) 16) (fun t ht => ofL_toL _ _ _ ht) 10 0 (by decide), word0]
theorem known (t : Nat) (h : t < 4) : byt (chaS z32 0 z12) t = 2917185654 / 256 ^ t % 256 := by
  unfold chaS
  rw [byt_nums _ 64 t (by omega) (by rw [first t h]; exact Nat.mod_lt _ (by decide)), first t h]
theorem known_0 : byt (chaS z32 0 z12) 0 = 118 := by rw [known 0 (by decide)]
theorem known_1 : byt (chaS z32 0 z12) 1 = 184 := by rw [known 1 (by decide)]
end Go.Proofs.Cha
