/-
  Contracts of the developers' sha: words out of bytes and into bytes.
-/
import Derived.Test.YtbfkbinkfboklaaDoorProg
import Derived.Test.YtbfkbinkfboklaaDoorShaM
import Derived.Test.YtbfkbinkfboklaaDoorSha5M
import Derived.Test.YtbfkbinkfboklaaDoorShaL
import Derived.Test.YtbfkbinkfboklaaDoorBeA
import Derived.Handy
import Derived.Deep.OwnRows
import Derived.WalkSmall
namespace Go.Proofs.Im
open Go.RowKit
theorem retN {k : IntKind} {a b : Int} (h : a = b) : Ending.returned (.int k a) = .returned (.int k b) := by rw [h]
/-- The number that the first k bytes say, the highest first. -/
def beN (f : Nat → Nat) : Nat → Nat
  | 0 => 0
  | k + 1 => beN f k * 256 + f k
theorem beN_lt (f : Nat → Nat) (hf : ∀ i, f i < 256) (k : Nat) : beN f k < 256 ^ k := by
  induction k with
  | zero => simp [beN]
  | succ k ih => have := hf k; simp only [beN, Nat.pow_succ]; omega
theorem beN_lt8 (f : Nat → Nat) (hf : ∀ i, f i < 256) (k : Nat) (hk : k < 8) : beN f k < 72057594037927936 :=
  Nat.lt_of_lt_of_le (beN_lt f hf k) (Nat.le_trans (Nat.pow_le_pow_right (by decide) (show k ≤ 7 by omega)) (by decide))
theorem beN_step (f : Nat → Nat) (hf : ∀ i, f i < 256) (k : Nat) (hk : k < 8) : bits .or .u64 (IntKind.u64.wrap ((beN f k : Nat) * 256)) (f k : Nat) = (beN f (k + 1) : Nat) := by
  have h := beN_lt8 f hf k hk
  have h2 := hf k
  rw [show IntKind.u64.wrap (((beN f k : Nat) : Int) * 256) = ((beN f k * 256 : Nat) : Int) from IntWalk.u64_in _ (by omega)]
  exact Sha5.step_or _ _ h h2
set_option maxHeartbeats 1000000 in
theorem getWord_any (f : Nat → Nat) (g off n c : Nat) (w : World) (hn : n ≤ 8) (hf : ∀ i, f i < 256) (hc : ∀ j, j < n → w.cell? ⟨g, off + j, none⟩ = some (.int .u8 (f j : Nat))) :
    Calls Tryd.prog 60 #[.slice (some ⟨g, off, none⟩) n c] w fun e w' => e = .returned (.int .u64 (beN f n : Nat)) ∧ w' = w := by
  have HF := Lib.hid hf
  have HC := Lib.hid hc
  clear hf hc
  go_enter Tryd.func60, Tryd.ntmps60
  go_wp2
  go_loop [3, 8] (fun x i => ∃ j : Nat, j ≤ n ∧ i = .int .i64 j ∧ x = .int .u64 (beN f j : Nat)) (fun _ i => n - (intOf i).toNat)
  case atStart => exact ⟨0, Nat.zero_le _, rfl, rfl⟩
  case round =>
    obtain ⟨j, hj, rfl, rfl⟩ := hrel
    by_cases hlt : j < n
    · have hcell := HC.out j hlt
      have fl := HF.out j
      go_wp2
      go_round
      case rel =>
        refine ⟨j + 1, by omega, by go_num, ?_⟩
        rw [beN_step f HF.out j (by omega)]
      case measure => simp [intOf]; omega
    · have hjn : j = n := by omega
      subst hjn
      go_wp2
      go_ret
      exact ⟨rfl, rfl⟩
/-- Nothing that was there has changed, but block g. -/
structure But (g : Nat) (w w' : World) : Prop where
  os : w'.os = w.os
  tape : w'.tape = w.tape
  output : w'.output = w.output
  size : w.heap.size ≤ w'.heap.size
  block : ∀ k, k < w.heap.size → k ≠ g → w'.heap[k]? = w.heap[k]?
theorem But.refl (g : Nat) (w : World) : But g w w := ⟨rfl, rfl, rfl, Nat.le_refl _, fun _ _ _ => rfl⟩
theorem But.trans {g : Nat} {a b c : World} (h : But g a b) (k : But g b c) : But g a c :=
  ⟨k.os.trans h.os, k.tape.trans h.tape, k.output.trans h.output, Nat.le_trans h.size k.size, fun i hi hg => (k.block i (Nat.lt_of_lt_of_le hi h.size) hg).trans (h.block i hi hg)⟩
theorem But.drew {g : Nat} {w w' : World} (h : But g w w') : But g w w'.drew := ⟨h.os, h.tape, h.output, h.size, h.block⟩
theorem But.setCell {g : Nat} {w w' : World} (h : But g w w') (i : Nat) (v : Value) : But g w (w'.setCell ⟨g, i, none⟩ v) :=
  h.trans ⟨rfl, rfl, rfl, by simp, fun k _ hk => Below.heap_setCell w' ⟨g, i, none⟩ v k hk⟩
theorem But.alloc {g : Nat} {w w' : World} (h : But g w w') (o : Obj) : But g w (w'.alloc o) :=
  h.trans ⟨rfl, rfl, rfl, by simp, fun k hk _ => Below.heap_alloc w' o k hk⟩
theorem But.of_below {g : Nat} {w w' : World} (h : Below w.heap.size w w') : But g w w' := ⟨h.os, h.tape, h.output, h.size, fun k hk _ => h.block k hk⟩
theorem But.below {g B : Nat} {w0 w u : World} (h : But g w u) (hb : Below B w0 w) (hB : B ≤ g) (hs : B ≤ w.heap.size) : Below B w0 u :=
  hb.trans ⟨h.os, h.tape, h.output, h.size, fun k hk => h.block k (by omega) (by omega)⟩
theorem But.row {g b : Nat} {w u : World} {t : TypeId} {n : Nat} {f : Nat → Value} (h : But g w u) (r : w.rowIs b t n f) (hb : b ≠ g) : u.rowIs b t n f := r.of_block (h.block b r.lt hb)
/-- Byte i of n of a number, the highest first. -/
def beB (x n i : Nat) : Nat := x / 256 ^ (n - 1 - i) % 256
theorem beB_lt (x n i : Nat) : beB x n i < 256 := Nat.mod_lt _ (by decide)
theorem beL_get (x n i : Nat) (h : i < n) : (Be.beL x n).getD i 0 = UInt8.ofNat (beB x n i) := by
  induction n generalizing x with
  | zero => omega
  | succ n ih =>
    unfold Be.beL
    rw [List.getD_eq_getElem?_getD]
    by_cases hi : i < n
    · rw [List.getElem?_append_left (by rw [Be.beL_length]; exact hi), ← List.getD_eq_getElem?_getD, ih (x / 256) hi]
      unfold beB
      rw [Nat.div_div_eq_div_mul, show n + 1 - 1 - i = (n - 1 - i) + 1 by omega, Nat.pow_succ, Nat.mul_comm]
    · obtain rfl : i = n := by omega
      rw [List.getElem?_append_right (by rw [Be.beL_length]; exact Nat.le_refl _), Be.beL_length, Nat.sub_self]
      simp [beB]
theorem div_pow_cast (x j : Nat) : ((x : Nat) : Int) / 256 ^ j = ((x / 256 ^ j : Nat) : Int) := by rw [Int.natCast_ediv, Int.natCast_pow]; rfl
/-- A row over whose n cells from off on a number's bytes were written, the last j of them. -/
def laidB (F : Nat → Value) (off n x j : Nat) : Nat → Value := fun k => if off + n - j ≤ k ∧ k < off + n then .int .u8 (beB x n (k - off) : Nat) else F k
set_option maxHeartbeats 1000000 in
theorem putWord_any (x g off n c N : Nat) (t : TypeId) (F : Nat → Value) (w : World) (hn : 0 < n) (h8 : n ≤ 8) (hN : off + n ≤ N) (_hx : x < 18446744073709551616) (hr : w.rowIs g t N F) :
    Calls Tryd.prog 53 #[.slice (some ⟨g, off, none⟩) n c, .int .u64 x] w fun e w' => e = .returned (.tuple #[]) ∧ But g w w' ∧ w'.rowIs g t N (laidB F off n x n) := by
  have HR := Lib.hid hr
  clear hr
  go_enter Tryd.func53, Tryd.ntmps53
  go_wp2
  go_loopw [1, 4] (fun y i wx => ∃ j : Nat, j ≤ n ∧ i = .int .i64 ((n : Int) - 1 - j) ∧ y = .int .u64 (x / 256 ^ j : Nat) ∧ But g w wx ∧ wx.rowIs g t N (laidB F off n x j)) (fun _ i _ => ((intOf i) + 1).toNat)
  case atStart => exact ⟨0, Nat.zero_le _, by simp, by simp, But.refl _ _, HR.out.congr fun k hk => by unfold laidB; rw [if_neg (by omega)]⟩
  case round =>
    obtain ⟨j, hj, rfl, rfl, hB, HM⟩ := hrel
    by_cases hlt : j < n
    · have hcell := HM.cell (i := off + (n - 1 - j)) (by omega)
      have hfr := HM.frozen (off + (n - 1 - j))
      go_wp2
      have e1 : ((x : Nat) : Int) / 256 ^ j = ((x / 256 ^ j : Nat) : Int) := div_pow_cast x j
      refine ⟨⟨j + 1, by omega, by go_num, ?_, hB.setCell _ _, (HM.set _ _).congr fun k hk => ?_⟩, by simp [intOf]; omega⟩
      · rw [e1, Nat.pow_succ, ← Nat.div_div_eq_div_mul, Int.natCast_ediv]; rfl
      · rw [e1]
        unfold laidB
        by_cases hk2 : k = off + (n - 1 - j)
        · subst hk2
          rw [if_pos rfl, if_pos (by omega)]
          unfold beB
          rw [show n - 1 - (off + (n - 1 - j) - off) = j by omega, Int.natCast_emod]; rfl
        · rw [if_neg hk2]
          by_cases hk3 : off + n - j ≤ k ∧ k < off + n
          · rw [if_pos hk3, if_pos (by omega)]
          · rw [if_neg hk3, if_neg (by omega)]
    · have hjn : j = n := by omega
      subst hjn
      go_wp2
      go_end0
      exact ⟨rfl, hB, HM⟩
end Go.Proofs.Im
