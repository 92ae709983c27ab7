/-
  AES's schedule and Block as plain functions, of no program.
-/
import Derived.Test.YtljhenjbjondkaaJoaa
import Derived.Laws.BytesArg
import Derived.Test.YtljhenjbjondkaaJoaj
import Derived.Laws.AppendOwn
import Derived.OwnWalk
import Derived.Deep.AppendLies
import Derived.Deep.RegionHeld3
import Derived.Test.YtljhenjbjondkaaProg
import Derived.WalkKit
import Derived.WalkSpells
import Derived.Handy
import Derived.Lib.Hide
import Derived.Lib.Strings
import Derived.Laws.BitsAllLaws
import Derived.Laws.MakeOwn
import Derived.StillTailTactics
import Derived.WalkSmall
namespace Go.Proofs.Aes
open Go.RowKit
/-- The numbers of the rounds. -/
def rc : Nat → Nat
  | 0 => 1
  | q + 1 => dbl (rc q)
theorem rc_lt (q : Nat) : rc q < 256 := by
  induction q with
  | zero => decide
  | succ q ih => exact dbl_lt _ ih
/-- Word i's byte j ahead of the sum with the word of a key's length before. -/
def tmpW (k i : Nat) (f : Nat → Nat) (j : Nat) : Nat :=
  if i % k = 0 then (if j = 0 then bx (f (4 * (i - 1) + 1)) ^^^ rc ((i + k - 1) / k - 1) else bx (f (4 * (i - 1) + (j + 1) % 4)))
  else if 6 < k ∧ i % k = 4 then bx (f (4 * (i - 1) + j)) else f (4 * (i - 1) + j)
def stepW (k i : Nat) (f : Nat → Nat) (j : Nat) : Nat := tmpW k i f j ^^^ f (4 * (i - k) + j)
/-- A key's bytes, and m words behind them. -/
def exS (k : Nat) (key : ByteArray) : Nat → Nat → Nat
  | 0 => byt key
  | m + 1 => fun t => if t / 4 = k + m then stepW k (k + m) (exS k key m) (t % 4) else exS k key m t
theorem tmpW_lt {k i : Nat} {f : Nat → Nat} (h : ∀ t, f t < 256) (j : Nat) : tmpW k i f j < 256 := by
  unfold tmpW; split
  · split
    · exact xor8_lt (bx_lt _ (h _)) (rc_lt _)
    · exact bx_lt _ (h _)
  · split
    · exact bx_lt _ (h _)
    · exact h _
theorem exS_lt (k : Nat) (key : ByteArray) (m t : Nat) : exS k key m t < 256 := by
  induction m generalizing t with
  | zero => exact byt_lt _ _
  | succ m ih =>
    show (if t / 4 = k + m then stepW k (k + m) (exS k key m) (t % 4) else exS k key m t) < 256
    split
    · exact xor8_lt (tmpW_lt ih _) (ih _)
    · exact ih t
/-- AES of a block under a key of 16 or 32 bytes. -/
def encS (key s : ByteArray) : ByteArray := ciphS (exS (key.size / 4) key (3 * (key.size / 4) + 28)) (key.size / 4 + 6) s
def aesOk (key s : ByteArray) : Bool := (decide (key.size = 16) || decide (key.size = 32)) && decide (s.size = 16)
def aesS (key s : ByteArray) : ByteArray := bif aesOk key s then encS key s else ⟨#[]⟩
def aesE (key s : ByteArray) : Int := bif aesOk key s then 0 else 400
theorem ciphS_size (wk : Nat → Nat) (n : Nat) (s : ByteArray) : (ciphS wk n s).size = 16 := by simp [ciphS, strOfNums_size]
theorem encS_size (key s : ByteArray) : (encS key s).size = 16 := ciphS_size _ _ _
theorem encS_16 (key s : ByteArray) (h : key.size = 16) : encS key s = ciphS (exS 4 key 40) 10 s := by unfold encS; rw [h]
theorem encS_32 (key s : ByteArray) (h : key.size = 32) : encS key s = ciphS (exS 8 key 52) 14 s := by unfold encS; rw [h]
end Go.Proofs.Aes
/-
  The document's own answer: AES's schedule.
-/
namespace Go.Proofs.Aes
open Go.RowKit
open Go.Proofs.Im (ready_plain)
open Go.Proofs.Sha (wordCells wordCells_get wordCells_size rowIs_of wpList_alloc_to)
/-- n words as cells. -/
def cellsF (f : Nat → Nat) (n : Nat) : List Value := (List.range (4 * n)).map fun t => Value.int .u8 (f t : Nat)
theorem cellsF_length (f : Nat → Nat) (n : Nat) : (cellsF f n).length = n * 4 := by simp [cellsF]; omega
theorem cellsF_get (f : Nat → Nat) (n i : Nat) (h : i < 4 * n) : (cellsF f n)[i]? = some (.int .u8 (f i : Nat)) := by
  unfold cellsF; rw [List.getElem?_map, List.getElem?_range h]; rfl
theorem cellsF_succ (f g : Nat → Nat) (n a b c d : Nat) (hf : ∀ t, t < 4 * n → g t = f t) (h0 : g (4 * n) = a) (h1 : g (4 * n + 1) = b) (h2 : g (4 * n + 2) = c) (h3 : g (4 * n + 3) = d) :
    cellsF f n ++ [.int .u8 (a : Nat), .int .u8 (b : Nat), .int .u8 (c : Nat), .int .u8 (d : Nat)] = cellsF g (n + 1) := by
  apply List.ext_getElem?
  intro i
  by_cases h : i < 4 * n
  · rw [List.getElem?_append_left (by rw [cellsF_length]; omega), cellsF_get f n i h, cellsF_get g (n + 1) i (by omega), hf i h]
  · rw [List.getElem?_append_right (by rw [cellsF_length]; omega), cellsF_length]
    by_cases h' : i < 4 * (n + 1)
    · rw [cellsF_get g (n + 1) i h']
      obtain ⟨j, rfl⟩ : ∃ j, i = 4 * n + j := ⟨i - 4 * n, by omega⟩
      rw [show 4 * n + j - n * 4 = j by omega]
      have hj : j = 0 ∨ j = 1 ∨ j = 2 ∨ j = 3 := by omega
      rcases hj with rfl | rfl | rfl | rfl
      · rw [← h0]; rfl
      · rw [← h1]; rfl
      · rw [← h2]; rfl
      · rw [← h3]; rfl
    · rw [List.getElem?_eq_none (by simp; omega), List.getElem?_eq_none (by rw [cellsF_length]; omega)]
theorem lt4 {P : Nat → Prop} (h0 : P 0) (h1 : P 1) (h2 : P 2) (h3 : P 3) (i : Nat) (hi : i < 4) : P i := by
  match i, hi with
  | 0, _ => exact h0
  | 1, _ => exact h1
  | 2, _ => exact h2
  | 3, _ => exact h3
theorem four_one {x y z t : Int} : ∀ u ∈ [Value.int .u8 x, .int .u8 y, .int .u8 z, .int .u8 t], u.oneCell' = true := by
  intro u hu
  simp at hu
  rcases hu with rfl | rfl | rfl | rfl <;> rfl
section
variable {P : Program} {md : Region.Mode} {ops : Array Oper} {Q : Exit → Act → World → Prop} {fuel i : Nat} {listed : Array Bool} {a : Act} {w : World} {o : Oper} {rs : List Nat}
theorem ready_val (ho : ops[i]? = some o) (hg : o.guard = none) (v : Value) (w' : World) (hr : (execOp a.eval o).run P w = .ok (.value v) w')
    (h : wpAny P md ops Q fuel (listed.setIfInBounds i true) (a.put o.dst v) w')
    (hs : AllReady P md ops Q fuel listed a w rs) : AllReady P md ops Q fuel listed a w (i :: rs) :=
  ready_plain ho hg (fun _ hK => by unfold Oper.wp; rw [hr]; exact hK _ _ h) hs
end
theorem meas (K j : Nat) (h : j < K) : K - (intOf (.int .i64 ((j : Int) + 1))).toNat < K - (intOf (.int .i64 (j : Int))).toNat := by
  show K - ((j : Int) + 1).toNat < K - (j : Int).toNat
  omega
theorem box_get (k : Nat) (hk : k < 256) : ∀ h : k < boxS.size, (boxS[k]'h).toNat = bx k := fun h => by rw [get_byt, box_byt k hk]
def Sched (w : World) (N : Nat) (f : Nat → Nat) (e : Ending) (w' : World) : Prop := ∃ g cap, e = .returned (.slice (some ⟨g, 0, none⟩) N cap) ∧ w.heap.size ≤ g ∧ g < w'.heap.size ∧ Below w.heap.size w w' ∧ Keys w' g N f
end Go.Proofs.Aes
/-
  Contracts of the document's own answers: Be (4 and 8 bytes), padded.
-/
namespace Go.Proofs.Be
open Go.RowKit
/-- A number's bytes, k of them, the highest first. -/
def beL (x : Nat) : Nat → List UInt8
  | 0 => []
  | k + 1 => beL (x / 256) k ++ [UInt8.ofNat (x % 256)]
def beS (x k : Nat) : ByteArray := ⟨(beL x k).toArray⟩
theorem beL_length (x k : Nat) : (beL x k).length = k := by
  induction k generalizing x with
  | zero => rfl
  | succ k ih => simp [beL, ih]
theorem beS_size (x k : Nat) : (beS x k).size = k := by simp [beS, ByteArray.size, beL_length]
theorem beS_list (x k : Nat) : (beS x k).data.toList = beL x k := by simp [beS]
theorem and255 (x : Nat) (h : x < 9223372036854775808) : bits .and .i64 (x : Int) 255 = ((x % 256 : Nat) : Int) := by
  have hx : x &&& 255 < 2 ^ 63 := Nat.and_lt_two_pow _ (by omega)
  show IntKind.i64.wrap ((BitVec.ofInt 64 (x : Int) &&& BitVec.ofInt 64 ((255 : Nat) : Int)).toNat : Int) = _
  rw [BitVec.toNat_and, ofInt_u64 x (by omega), ofInt_u64 255 (by omega), nat_mask8] at *
  exact IntWalk.i64_in _ (by omega)
theorem and255i (y : Int) (h : 0 ≤ y) (h2 : y < 9223372036854775808) : bits .and .i64 y 255 % 256 = y % 256 := by
  obtain ⟨n, rfl⟩ := Int.eq_ofNat_of_zero_le h
  rw [and255 n (by omega)]; omega
theorem retS {s t : ByteArray} (h : s = t) : Ending.returned (.string s) = .returned (.string t) := by rw [h]

theorem lt4 {P : Nat → Prop} (h0 : P 0) (h1 : P 1) (h2 : P 2) (h3 : P 3) (i : Nat) (hi : i < 4) : P i := by
  match i, hi with
  | 0, _ => exact h0
  | 1, _ => exact h1
  | 2, _ => exact h2
  | 3, _ => exact h3
theorem beS4 (x : Nat) : strOfNums [(x : Int) / 256 / 256 / 256 % 256, (x : Int) / 256 / 256 % 256, (x : Int) / 256 % 256, (x : Int) % 256] = beS x 4 := by
  simp only [strOfNums, beS, beL, List.map, List.nil_append, List.cons_append]
  rw [show ((x : Int) / 256 / 256 / 256 % 256).toNat = x / 256 / 256 / 256 % 256 by omega, show ((x : Int) / 256 / 256 % 256).toNat = x / 256 / 256 % 256 by omega, show ((x : Int) / 256 % 256).toNat = x / 256 % 256 by omega, show ((x : Int) % 256).toNat = x % 256 by omega]
theorem makeN4 (w : World) : (Instr.makeSlice 27 (.int .i64 4) (.int .i64 4)).run Try.prog w = .ok (.slice (some ⟨w.heap.size, 0, none⟩) 4 4) (w.alloc (.cells #[.int .u8 0, .int .u8 0, .int .u8 0, .int .u8 0] 5)) := by kernel_rfl
theorem lt8 {P : Nat → Prop} (h0 : P 0) (h1 : P 1) (h2 : P 2) (h3 : P 3) (h4 : P 4) (h5 : P 5) (h6 : P 6) (h7 : P 7) (i : Nat) (hi : i < 8) : P i := by
  match i, hi with
  | 0, _ => exact h0
  | 1, _ => exact h1
  | 2, _ => exact h2
  | 3, _ => exact h3
  | 4, _ => exact h4
  | 5, _ => exact h5
  | 6, _ => exact h6
  | 7, _ => exact h7
theorem beS8 (x : Nat) : strOfNums [(x : Int) / 256 / 256 / 256 / 256 / 256 / 256 / 256 % 256, (x : Int) / 256 / 256 / 256 / 256 / 256 / 256 % 256, (x : Int) / 256 / 256 / 256 / 256 / 256 % 256, (x : Int) / 256 / 256 / 256 / 256 % 256, (x : Int) / 256 / 256 / 256 % 256, (x : Int) / 256 / 256 % 256, (x : Int) / 256 % 256, (x : Int) % 256] = beS x 8 := by
  simp only [strOfNums, beS, beL, List.map, List.nil_append, List.cons_append]
  rw [show ((x : Int) / 256 / 256 / 256 / 256 / 256 / 256 / 256 % 256).toNat = x / 256 / 256 / 256 / 256 / 256 / 256 / 256 % 256 by omega, show ((x : Int) / 256 / 256 / 256 / 256 / 256 / 256 % 256).toNat = x / 256 / 256 / 256 / 256 / 256 / 256 % 256 by omega, show ((x : Int) / 256 / 256 / 256 / 256 / 256 % 256).toNat = x / 256 / 256 / 256 / 256 / 256 % 256 by omega, show ((x : Int) / 256 / 256 / 256 / 256 % 256).toNat = x / 256 / 256 / 256 / 256 % 256 by omega, show ((x : Int) / 256 / 256 / 256 % 256).toNat = x / 256 / 256 / 256 % 256 by omega, show ((x : Int) / 256 / 256 % 256).toNat = x / 256 / 256 % 256 by omega, show ((x : Int) / 256 % 256).toNat = x / 256 % 256 by omega, show ((x : Int) % 256).toNat = x % 256 by omega]
theorem makeN8 (w : World) : (Instr.makeSlice 27 (.int .i64 8) (.int .i64 8)).run Try.prog w = .ok (.slice (some ⟨w.heap.size, 0, none⟩) 8 8) (w.alloc (.cells #[.int .u8 0, .int .u8 0, .int .u8 0, .int .u8 0, .int .u8 0, .int .u8 0, .int .u8 0, .int .u8 0] 5)) := by kernel_rfl
end Go.Proofs.Be
/-
  The document's own answer: Ghash at every input, filled, a nonce's blocks over a text.
-/
namespace Go.Proofs.Gcm
open Go.RowKit
open Go.Proofs.Aes (byt byt_lt get_byt ciphS ciphS_size Keys)
open Go.Proofs.Sha (rowIs_of)
def ghOk (h s : ByteArray) : Bool := decide (h.size = 16) && decide (s.size % 16 = 0)
def ghashS (h s : ByteArray) : ByteArray := bif ghOk h s then ghS h s else ⟨#[]⟩
def ghashE (h s : ByteArray) : Int := bif ghOk h s then 0 else 500
/-- m noughts as a text. -/
def zS (m : Nat) : ByteArray := strOfNums (List.replicate m 0)
theorem zS_size (m : Nat) : (zS m).size = m := by simp [zS, strOfNums_size]
theorem conv_new (W : World) (M : Array Value) (m : Nat) (hMc : ∀ i, i < m → M[i]? = some (.int .u8 0)) :
    (convert 27 9 (.slice (some ⟨W.heap.size, 0, none⟩) m m)).run Try.prog (W.alloc (.cells M 5)) = .ok (.string (zS m)) (W.alloc (.cells M 5)) :=
  run_convert_bytes_arg (P := Try.prog) _ 27 5 Try.underlying27 Try.underlying5 W.heap.size 0 m m (List.replicate m 0) (by simp) (fun i hi => by
    rw [World.cell?_alloc_at _ _ _ _ rfl, Nat.zero_add, List.getD_eq_getElem?_getD, List.getElem?_replicate, if_pos hi]; exact hMc i hi) 9 Try.underlying9
/-- With noughts to whole blocks. -/
def fillS (s : ByteArray) : ByteArray := s ++ zS ((16 - s.size % 16) % 16)
end Go.Proofs.Gcm
/-
  The document's own answer: a nonce's blocks over a text.
-/
namespace Go.Proofs.Gcm
open Go.RowKit
open Go.Proofs.Aes (byt byt_lt get_byt ciphS ciphS_size Keys)
open Go.Proofs.Be (beS beS_size)
open Go.Proofs.Sha (rowIs_of)
/-- The text's byte t under the nonce's blocks, counted from f on. -/
def ctrB (wk : Nat → Nat) (n : Nat) (nonce : ByteArray) (f : Nat) (s : ByteArray) (t : Nat) : Nat := byt s t ^^^ byt (ciphS wk n (nonce ++ beS (f + t / 16) 4)) (t % 16)
def ctrS (wk : Nat → Nat) (n : Nat) (nonce : ByteArray) (f : Nat) (s : ByteArray) : ByteArray := strOfNums ((List.range s.size).map fun t => (ctrB wk n nonce f s t : Int))
theorem ctrS_size (wk : Nat → Nat) (n : Nat) (nonce : ByteArray) (f : Nat) (s : ByteArray) : (ctrS wk n nonce f s).size = s.size := by simp [ctrS, strOfNums_size]
theorem Keys.below {w u : World} {b len : Nat} {wk : Nat → Nat} (h : Keys w b len wk) (hb : b < w.heap.size) (hbl : Below w.heap.size w u) : Keys u b len wk := fun i hi => (hbl.cell (p := ⟨b, i, none⟩) hb).trans (h i hi)
theorem meas16 (z m : Nat) (h : m < z) : z + 16 - (intOf (.int .i64 ((m : Int) + 16))).toNat < z + 16 - (intOf (.int .i64 (m : Int))).toNat := by
  show z + 16 - ((m : Int) + 16).toNat < z + 16 - (m : Int).toNat
  omega
end Go.Proofs.Gcm
/-
  The document's own answer: a tag, Seal of GCM at every input.
-/
namespace Go.Proofs.Gcm
open Go.RowKit
open Go.Proofs.Aes (byt byt_lt get_byt ciphS ciphS_size Keys exS exS_lt Sched)
open Go.Proofs.Be (beS beS_size)
/-- A schedule in memory. -/
def Key (w : World) (b len n : Nat) (wk : Nat → Nat) : Prop := len = 4 * (n + 1) ∧ (1 ≤ n ∧ n ≤ 14) ∧ b < w.heap.size ∧ Keys w b len wk ∧ ∀ i, wk i < 256
theorem Key.below {w u : World} {b len n : Nat} {wk : Nat → Nat} (h : Key w b len n wk) (hb : Below w.heap.size w u) : Key u b len n wk :=
  ⟨h.1, h.2.1, Nat.lt_of_lt_of_le h.2.2.1 hb.size, Keys.below h.2.2.2.1 h.2.2.1 hb, h.2.2.2.2⟩
/-- What a tag is made of. -/
def authS (aad c : ByteArray) : ByteArray := fillS aad ++ fillS c ++ (beS (8 * aad.size) 8 ++ beS (8 * c.size) 8)
def tagS (wk : Nat → Nat) (n : Nat) (nonce aad c : ByteArray) : ByteArray := ctrS wk n nonce 1 (ghS (ciphS wk n (zS 16)) (authS aad c))
theorem tagS_size (wk : Nat → Nat) (n : Nat) (nonce aad c : ByteArray) : (tagS wk n nonce aad c).size = 16 := by unfold tagS; rw [ctrS_size, ghS_size]
theorem fillS_le (s : ByteArray) : (fillS s).size ≤ s.size + 15 := by unfold fillS; rw [ByteArray.size_append, zS_size]; omega
theorem go_on {w u v : World} (h : Below w.heap.size w u) (hb : Below u.heap.size u v) : Below w.heap.size w v := h.trans (hb.mono h.size)
/-- A key's schedule, and how many rounds it has. -/
def wkS (key : ByteArray) : Nat → Nat := exS (key.size / 4) key (3 * (key.size / 4) + 28)
def nR (key : ByteArray) : Nat := key.size / 4 + 6
def keyOk (key : ByteArray) : Bool := decide (key.size = 16) || decide (key.size = 32)
theorem keyOk_or {key : ByteArray} (h : keyOk key = true) : key.size = 16 ∨ key.size = 32 := by simpa [keyOk] using h
def SchedAt (w : World) (key : ByteArray) (e : Ending) (w' : World) : Prop := ∃ g len cap, e = .returned (.slice (some ⟨g, 0, none⟩) len cap) ∧ Below w.heap.size w w' ∧ Key w' g len (nR key) (wkS key)
def gcmOk (key nonce aad s : ByteArray) (more : Nat) : Bool := keyOk key && (decide (nonce.size = 12) && (decide (aad.size ≤ 65536) && decide (s.size ≤ 65536 + more)))
def sealS (key nonce aad s : ByteArray) : ByteArray := ctrS (wkS key) (nR key) nonce 2 s ++ tagS (wkS key) (nR key) nonce aad (ctrS (wkS key) (nR key) nonce 2 s)
def gcmS (key nonce aad s : ByteArray) : ByteArray := bif gcmOk key nonce aad s 0 then sealS key nonce aad s else ⟨#[]⟩
def gcmE (key nonce aad s : ByteArray) : Int := bif gcmOk key nonce aad s 0 then 0 else 500
theorem gcmOk_parts {key nonce aad s : ByteArray} {more : Nat} (h : gcmOk key nonce aad s more = true) : keyOk key = true ∧ nonce.size = 12 ∧ aad.size ≤ 65536 ∧ s.size ≤ 65536 + more := by
  unfold gcmOk at h
  simp only [Bool.and_eq_true, decide_eq_true_eq] at h
  exact h
end Go.Proofs.Gcm
/-
  The document's own answer: Open of GCM at every input.
-/
namespace Go.Proofs.Gcm
open Go.RowKit
/-- Are the last sixteen bytes the tag of those ahead? -/
def tagOk (key nonce aad s : ByteArray) (k : Nat) : Bool := (tagS (wkS key) (nR key) nonce aad (s.extract 0 k)).toList == (s.extract k (k + 16)).toList
theorem same_iff (a b : ByteArray) : (a.toList == b.toList) = true ↔ a = b := by
  rw [beq_iff_eq, ByteArray.toList_eq, ByteArray.toList_eq]
  exact ⟨fun h => ByteArray.ext (Array.toList_inj.1 h), fun h => by rw [h]⟩
def openB (key nonce aad s : ByteArray) : Bool := gcmOk key nonce aad s 16 && (decide (16 ≤ s.size) && tagOk key nonce aad s (s.size - 16))
def openS (key nonce aad s : ByteArray) : ByteArray := bif openB key nonce aad s then ctrS (wkS key) (nR key) nonce 2 (s.extract 0 (s.size - 16)) else ⟨#[]⟩
def openE (key nonce aad s : ByteArray) : Int := bif openB key nonce aad s then 0 else bif gcmOk key nonce aad s 16 then 501 else 500
end Go.Proofs.Gcm
