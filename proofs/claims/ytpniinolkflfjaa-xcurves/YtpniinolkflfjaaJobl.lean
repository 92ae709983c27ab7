/-
  The document's own answer for layer 10: a text of 32 bytes in the other row.
-/
import Derived.Test.YtpniinolkflfjaaJoan
namespace Go.Proofs.Xu
open Go.RowKit
open Go.Proofs.Nt
open Go.Proofs.Nu (nmA nmV RN)
open Go.Proofs.Aes (byt byt_lt get_byt)
/-- The bytes in the other row. -/
def rv (s : ByteArray) : ByteArray := Lw.pieceS (fun t => byt s (31 - t)) 0 32
theorem rv_size (s : ByteArray) : (rv s).size = 32 := Lw.pieceS_size _ _ _
theorem rv_byt (s : ByteArray) (i : Nat) (h : i < 32) : byt (rv s) i = byt s (31 - i) := by
  unfold rv
  rw [Lw.byt_piece (fun t => byt s (31 - t)) 0 32 i h (fun t => byt_lt s _), Nat.zero_add]
theorem rv_rv {s : ByteArray} (h : s.size = 32) : rv (rv s) = s :=
  text_same (by rw [rv_size, h]) fun i hi => by
    rw [rv_size] at hi
    rw [rv_byt _ i hi, rv_byt _ (31 - i) (by omega), show 31 - (31 - i) = i by omega]
/-- The bytes written so far. -/
def qb (s : ByteArray) (i t : Nat) : Nat := if 31 - t < i then byt s (31 - t) else 0
theorem qb_zero (s : ByteArray) (t : Nat) : qb s 0 t = 0 := by unfold qb; rw [if_neg (by omega)]
theorem qb_end (s : ByteArray) (t : Nat) : qb s 32 t = byt s (31 - t) := by unfold qb; rw [if_pos (by omega)]
theorem qb_next (s : ByteArray) {i k : Nat} (hi : i < 32) (hk : 31 - i = k) (t : Nat) (ht : t < 32) : (if t = k then byt s i else qb s i t) = qb s (i + 1) t := by
  unfold qb
  by_cases h : t = k
  · rw [if_pos h, if_pos (by omega), show 31 - t = i by omega]
  · rw [if_neg h]
    by_cases h2 : 31 - t < i
    · rw [if_pos h2, if_pos (by omega)]
    · rw [if_neg h2, if_neg (by omega)]
set_option maxHeartbeats 2000000 in
set_option maxRecDepth 20000 in
theorem turned_any (s : ByteArray) (w : World) (hs : s.size = 32) : Calls Try.prog 20 #[.string s] w fun e w' => e = .returned (.string (rv s)) ∧ Below w.heap.size w w' := by
  obtain ⟨M, hM, hMc, hmk0⟩ := Lw.zeros 32 (by decide)
  have hmk : ∀ W : World, (Instr.makeSlice 32 (.int .i64 32) (.int .i64 32)).run Try.prog W = .ok (.slice (some ⟨W.heap.size, 0, none⟩) 32 32) (W.alloc (.cells M 5)) := hmk0
  have HMz := Lib.hid hM
  have HMc := Lib.hid hMc
  have HSz := Lib.hid hs
  have hz : (s.size : Int) = 32 := by omega
  clear hmk0 hM hMc hs
  go_enter Try.func20, Try.ntmps20
  go_upto_region 0 with (fail)
  go_upto_region 1 with (fail)
  have HR : Hid (Lw.RowB (w.alloc (.cells M 5)) w.heap.size 32 (fun _ => 0)) := Lw.rowB_new w M 32 HMz.out HMc.out
  have HB : Hid (Below w.heap.size w (w.alloc (.cells M 5))) := (Below.refl _ _).alloc (Nat.le_refl _) _
  go_upto_region 2 with (fail)
  generalize w.alloc (.cells M 5) = w2 at HR HB ⊢
  clear hmk HMz HMc
  go_wp2_with (fail)
  go_loopw [4] (fun v wx => ∃ i : Nat, Hid (i ≤ 32) ∧ v = .int .i64 i ∧ Hid (Lw.RowB wx w.heap.size 32 (qb s i)) ∧ Hid (Below w.heap.size w wx)) (fun v _ => 32 - (intOf v).toNat)
  case atStart => exact ⟨0, Nat.zero_le _, rfl, HR.out.congr fun t _ => (qb_zero s t).symm, HB⟩
  case round =>
    clear HR HB
    obtain ⟨i, hi, rfl, HR, HB⟩ := hrel
    by_cases hlt : i < 32
    · have il : ((i : Int) < 32) = True := eq_true (by omega)
      have il' : (i : Int) < 32 := by omega
      have HI := Lib.hid hlt
      obtain ⟨k, hk⟩ : ∃ k, 31 - i = k := ⟨_, rfl⟩
      have hk' : k < 32 := by omega
      have t2 : IntKind.i64.wrap (31 - (i : Int)) = (k : Int) := by rw [IntWalk.i64_in _ (by omega)]; omega
      have jb : (k : Int) < 32 := by omega
      have yc := World.rowIs.cell HR.out (i := k) hk'
      have yf := World.rowIs.frozen HR.out k
      have l2 := byt_lt s i
      have hs' : i < s.size := by have := HSz.out; omega
      have v0 : ∀ h : i < s.size, (s[i]'h).toNat = byt s i := fun h => get_byt s _ h
      have HN : Hid (∀ t, t < 32 → (if t = k then byt s i else qb s i t) = qb s (i + 1) t) := qb_next s hlt hk
      generalize byt s i = y at l2 v0 HN
      clear hlt hk hk'
      go_wp2_with (fail)
      exact ⟨⟨i + 1, HI.out, by go_num, (HR.out.set k y).congr HN.out, HB.out.setCell (by simp) _⟩, Lw.meas 32 i HI.out⟩
    · have il : ((i : Int) < 32) = False := eq_false (by omega)
      obtain rfl : i = 32 := by have := hi.out; omega
      rw [show ((32 : Nat) : Int) = 32 from rfl]
      clear hlt il hi
      have hct := (HR.out.congr (Y := fun t => byt s (31 - t)) fun t ht => qb_end s t).text 0 32 32 (by decide)
      go_wp2_with (fail)
      go_ret
      exact ⟨rfl, HB.out⟩
end Go.Proofs.Xu
