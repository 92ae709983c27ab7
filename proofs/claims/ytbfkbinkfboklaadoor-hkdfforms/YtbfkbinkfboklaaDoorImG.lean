/-
  The developers' Hash in memory: its cells; blockSize, held.
-/
import Derived.Test.YtbfkbinkfboklaaDoorImE
import Derived.Test.YtbfkbinkfboklaaDoorImF
import Derived.Lib.LazyBuf
import Derived.Lib.SliceRun
import Derived.Deep.RegionHeld3
namespace Go.Proofs.Im
open Go.RowKit Go.Proofs.Sha
theorem rowIs_setCells {b : Nat} {t : TypeId} {n : Nat} : ∀ (vs : List Value) (o : Nat) (w : World) (f : Nat → Value), w.rowIs b t n f → (w.setCells b o vs).rowIs b t n (fun i => if o ≤ i ∧ i < o + vs.length then vs.getD (i - o) (.int .u8 0) else f i)
  | [], o, w, f, h => h.congr fun i _ => by rw [if_neg (by simp only [List.length_nil]; omega)]
  | v :: r, o, w, f, h => by
    have := rowIs_setCells r (o + 1) _ _ (h.set o v)
    refine World.rowIs.congr this fun i _ => ?_
    by_cases hi : i = o
    · subst hi
      rw [if_neg (by omega), if_pos rfl, if_pos (by simp), Nat.sub_self]; rfl
    · by_cases h2 : o + 1 ≤ i ∧ i < o + 1 + r.length
      · rw [if_pos h2, if_pos (by simp only [List.length_cons]; omega), show i - o = (i - (o + 1)) + 1 by omega, List.getD_cons_succ]
      · rw [if_neg h2, if_neg hi, if_neg (by simp only [List.length_cons]; omega)]
theorem But.setCells {g : Nat} {w : World} : ∀ (vs : List Value) (o : Nat) (w' : World), But g w w' → But g w (w'.setCells g o vs)
  | [], _, _, h => h
  | v :: r, o, _, h => But.setCells r (o + 1) _ (h.setCell o v)
/-- The cells of a Hash. -/
def hCell (bits : Int) (st buf : Nat → Nat) (len : Nat) : Nat → Value := fun i =>
  if i = 0 then .int .i64 bits else if i < 9 then .int .u64 (st (i - 1) : Nat) else if i < 137 then .int .u8 (buf (i - 9) : Nat) else .int .u64 (len : Nat)
def IsH (w : World) (g : Nat) (bits : Int) (st buf : Nat → Nat) (len : Nat) : Prop := w.rowIs g 73 138 (hCell bits st buf len)
theorem IsH.drew {w : World} {g : Nat} {bits : Int} {st buf : Nat → Nat} {len : Nat} (h : IsH w g bits st buf len) : IsH w.drew g bits st buf len := World.rowIs.drew h
theorem IsH.drewN {w : World} {g : Nat} {bits : Int} {st buf : Nat → Nat} {len : Nat} (h : IsH w g bits st buf len) (q : Nat) : IsH (w.drewN q) g bits st buf len := rowIs_drewN h q
theorem IsH.bits {w : World} {g : Nat} {bits : Int} {st buf : Nat → Nat} {len : Nat} (h : IsH w g bits st buf len) : w.cell? ⟨g, 0, none⟩ = some (.int .i64 bits) := World.rowIs.cell h (i := 0) (by omega)
theorem IsH.len {w : World} {g : Nat} {bits : Int} {st buf : Nat → Nat} {len : Nat} (h : IsH w g bits st buf len) : w.cell? ⟨g, 137, none⟩ = some (.int .u64 (len : Nat)) := World.rowIs.cell h (i := 137) (by omega)
theorem IsH.st {w : World} {g : Nat} {bits : Int} {st buf : Nat → Nat} {len : Nat} (h : IsH w g bits st buf len) (i : Nat) (hi : i < 8) : w.cell? ⟨g, 1 + i, none⟩ = some (.int .u64 (st i : Nat)) := by
  have := World.rowIs.cell h (i := 1 + i) (by omega)
  rw [this]
  unfold hCell
  rw [if_neg (by omega), if_pos (by omega), show 1 + i - 1 = i by omega]
theorem IsH.buf {w : World} {g : Nat} {bits : Int} {st buf : Nat → Nat} {len : Nat} (h : IsH w g bits st buf len) (i : Nat) (hi : i < 128) : w.cell? ⟨g, 9 + i, none⟩ = some (.int .u8 (buf i : Nat)) := by
  have := World.rowIs.cell h (i := 9 + i) (by omega)
  rw [this]
  unfold hCell
  rw [if_neg (by omega), if_neg (by omega), if_pos (by omega), show 9 + i - 9 = i by omega]
theorem IsH.frozen {w : World} {g : Nat} {bits : Int} {st buf : Nat → Nat} {len : Nat} (h : IsH w g bits st buf len) (i : Nat) : w.frozen? ⟨g, i, none⟩ = false := World.rowIs.frozen h i
theorem IsH.lt {w : World} {g : Nat} {bits : Int} {st buf : Nat → Nat} {len : Nat} (h : IsH w g bits st buf len) : g < w.heap.size := World.rowIs.lt h
theorem IsH.there {w : World} {g : Nat} {bits : Int} {st buf : Nat → Nat} {len : Nat} (h : IsH w g bits st buf len) (o n : Nat) (hn : o + n ≤ 138) : w.there g o n := fun j hj => ⟨by rw [World.rowIs.cell h (i := o + j) (by omega)]; rfl, h.frozen _⟩
/-- The two kinds: the number of bits, the size of a block. -/
def Kind (bits : Int) (size : Nat) : Prop := (bits = 256 ∧ size = 64) ∨ (bits = 384 ∧ size = 128)
set_option maxHeartbeats 400000 in
theorem blockSize_any {bits : Int} {size : Nat} (hk : Kind bits size) (g : Nat) (w : World) (hc : w.cell? ⟨g, 0, none⟩ = some (.int .i64 bits)) :
    Calls Tryd.prog 50 #[.pointer (some ⟨g, 0, none⟩)] w fun e w' => e = .returned (.int .i64 (size : Nat)) ∧ w' = w := by
  rcases hk with ⟨rfl, rfl⟩ | ⟨rfl, rfl⟩
  · go_enter Tryd.func50, Tryd.ntmps50
    go_wp2
    go_ret
    exact ⟨rfl, rfl⟩
  · go_enter Tryd.func50, Tryd.ntmps50
    go_wp2
    go_ret
    exact ⟨rfl, rfl⟩
set_option maxHeartbeats 400000 in
theorem held_any {bits : Int} {size : Nat} (hk : Kind bits size) (g len : Nat) (w : World) (hc : w.cell? ⟨g, 0, none⟩ = some (.int .i64 bits)) (hl : w.cell? ⟨g, 137, none⟩ = some (.int .u64 (len : Nat))) (hs : len < 18446744073709551616) :
    Calls Tryd.prog 51 #[.pointer (some ⟨g, 0, none⟩)] w fun e w' => e = .returned (.int .i64 (len % size : Nat)) ∧ ∃ n, w' = w.drewN n := by
  rcases hk with ⟨rfl, rfl⟩ | ⟨rfl, rfl⟩
  · go_enter Tryd.func51, Tryd.ntmps51
    go_wp2_with (fail)
    go_quiet ((go_at_call 50; exact Calls.quiet_of_same (blockSize_any (.inl ⟨rfl, rfl⟩) g _ (by rw [World.cell?_drewN]; exact hc))))
    go_wp2_with (fail)
    go_ret
    refine ⟨?_, nq, rfl⟩
    show Ending.returned (.int .i64 ((len : Int) % 64)) = _
    exact retI (by omega)
  · go_enter Tryd.func51, Tryd.ntmps51
    go_wp2_with (fail)
    go_quiet ((go_at_call 50; exact Calls.quiet_of_same (blockSize_any (.inr ⟨rfl, rfl⟩) g _ (by rw [World.cell?_drewN]; exact hc))))
    go_wp2_with (fail)
    go_ret
    refine ⟨?_, nq, rfl⟩
    show Ending.returned (.int .i64 ((len : Int) % 128)) = _
    exact retI (by omega)
end Go.Proofs.Im
