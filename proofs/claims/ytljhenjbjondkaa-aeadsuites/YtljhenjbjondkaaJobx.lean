/-
  The developers' aead: copies between bytes in memory and texts; the two steps of a walk over pieces.
-/
import Derived.Test.YtljhenjbjondkaaJoan
import Derived.Test.YtljhenjbjondkaaJobw
import Derived.Lib.LazyBuf
import Derived.Laws.IdiomCopy
namespace Go.Proofs.Ed
open Go.RowKit Go.Proofs.Ad
open Go.Proofs.Ew (Seg)
open Go.Proofs.Aes (byt byt_lt get_byt)
/-- Bytes as values. -/
def bv (V : Nat → Nat) (n : Nat) : List Value := (List.range n).map fun j => .int .u8 (V j : Nat)
theorem bv_len (V : Nat → Nat) (n : Nat) : (bv V n).length = n := by simp [bv]
theorem bv_get (V : Nat → Nat) (n j : Nat) (h : j < n) : (bv V n)[j]? = some (.int .u8 (V j : Nat)) := by simp [bv, h]
theorem bv_some (V : Nat → Nat) (n j : Nat) (v : Value) (h : (bv V n)[j]? = some v) : j < n ∧ v = .int .u8 (V j : Nat) := by
  have hj : j < n := by have := (List.getElem?_eq_some_iff.1 h).1; rwa [bv_len] at this
  rw [bv_get V n j hj] at h
  exact ⟨hj, (Option.some.inj h).symm⟩
theorem bv_congr {V W : Nat → Nat} {n : Nat} (h : ∀ j, j < n → V j = W j) : bv V n = bv W n := List.map_congr_left fun j hj => by rw [h j (List.mem_range.1 hj)]
theorem bv_one (V : Nat → Nat) (n : Nat) : ∀ v ∈ bv V n, v.oneCell' = true := by
  intro v hv
  simp only [bv, List.mem_map] at hv
  obtain ⟨_, _, rfl⟩ := hv
  rfl
theorem copy_cells (w : World) (g o d c : Nat) (p : Option Addr) (L c' : Nat) (V : Nat → Nat) (q : Option Addr) (hL : L ≤ d) (hq : L = 0 ∨ q = some ⟨g, o, none⟩)
    (hp : L = 0 ∨ ∃ a, p = some a ∧ ∀ j, j < L → w.cell? (a.add j) = some (.int .u8 (V j : Nat))) (hr : w.there g o L) :
    (Builtin.copy_ #[27, 27] 3 #[.slice q d c, .slice p L c']).run Try.prog w = .ok (goInt L) (w.setCells g o (bv V L)) := by
  rcases Nat.eq_zero_or_pos L with h0 | h0
  · subst h0
    exact run_copy_none (P := Try.prog) w 27 27 3 5 q p d c 0 c' Try.underlying27 (by kernel_rfl) (Nat.zero_min _)
  · obtain ⟨a, rfl, hc⟩ := hp.resolve_left (by omega)
    rw [hq.resolve_left (by omega)]
    have h := run_copy_cells (P := Try.prog) w 27 27 3 5 g o d c a L c' (bv V L) Try.underlying27 (by kernel_rfl) (by rw [bv_len]; exact (Nat.min_eq_left hL).symm)
      (fun j v hv => by obtain ⟨hj, rfl⟩ := bv_some V L j v hv; exact hc j hj) (fun j hj => (hr j (by rwa [bv_len] at hj)).1) (fun j hj => (hr j (by rwa [bv_len] at hj)).2) (bv_one V L)
    rw [bv_len] at h
    exact h
theorem bytes_bv (t : ByteArray) (L : Nat) (h : L ≤ t.size) : List.take L (List.map (fun b : UInt8 => Value.int IntKind.u8 (b.toNat : Int)) t.data.toList) = bv (byt t) L := by
  apply List.ext_getElem?
  intro j
  by_cases hj : j < L
  · rw [bv_get _ _ _ hj, List.getElem?_take_of_lt hj, List.getElem?_map, Array.getElem?_toList, Array.getElem?_eq_getElem (show j < t.data.size from Nat.lt_of_lt_of_le hj h), ← get_byt t j (Nat.lt_of_lt_of_le hj h)]
    rfl
  · rw [List.getElem?_eq_none (l := bv (byt t) L) (by rw [bv_len]; omega), List.getElem?_eq_none (by rw [List.length_take]; omega)]
/-- 'copy(dst, s)' of a text at least as long as dst. -/
theorem copy_text (w : World) (g o L c : Nat) (t : ByteArray) (q : Option Addr) (hL : L ≤ t.size) (hq : L = 0 ∨ q = some ⟨g, o, none⟩) (hr : w.there g o L) :
    (Builtin.copy_ #[27, 9] 3 #[.slice q L c, .string t]).run Try.prog w = .ok (goInt L) (w.setCells g o (bv (byt t) L)) := by
  have hz : ∀ w, (Go.sizeOf 5).run Try.prog w = .ok 1 w := fun w => by
    have hi : (Try.prog.info? 5).map (·.size) = some 1 := by kernel_rfl
    cases hq : Try.prog.info? 5 with
    | none => simp [hq] at hi
    | some i => simp [hq] at hi; simp [sizeOf, typeInfo, hq, hi]
  have hmin : Nat.min t.size L = L := Nat.min_eq_right hL
  have htk := bytes_bv t L hL
  rcases Nat.eq_zero_or_pos L with h0 | h0
  · subst h0
    cases q <;> simp [Builtin.copy_, run_underlying Try.underlying27, Builtin.lenOf, Builtin.firstCells, hz, storeCells, bv, World.setCells]
  · rw [hq.resolve_left (by omega)]
    have hst := run_storeCells_cells (P := Try.prog) g o (bv (byt t) L) 0 w (fun j hj => by rw [Nat.add_zero]; exact (hr j (by rwa [bv_len] at hj)).1) (fun j hj => by rw [Nat.add_zero]; exact (hr j (by rwa [bv_len] at hj)).2) (bv_one _ _)
    simp only [Nat.add_zero] at hst
    simp [Builtin.copy_, run_underlying Try.underlying27, Builtin.lenOf, Builtin.firstCells, hz, hmin]
    rw [htk, hst]
    rfl
set_option maxHeartbeats 1000000 in
theorem text1_any (G1 G2 i n L c : Nat) (p : Option Addr) (V : Nat → Nat) (w : World) (hc : w.cell? ⟨G2, 0, none⟩ = some (.slice (some ⟨G1, 0, none⟩) n n)) (hi : i + L ≤ n) (hn : n ≤ 1000000)
    (hp : L = 0 ∨ ∃ a, p = some a ∧ ∀ j, j < L → w.cell? (a.add j) = some (.int .u8 (V j : Nat))) (hr : w.there G1 i L) :
    Calls Try.prog 29 #[.int .i64 (i : Nat), .slice p L c, .pointer (some ⟨G2, 0, none⟩)] w fun e w' => e = .returned (.tuple #[]) ∧ w' = w.setCells G1 i (bv V L) := by
  have b1 : (i : Int) ≤ n := by omega
  rcases Nat.lt_or_ge i n with h | h
  · have hk := copy_cells w G1 i (n - i) (n - i) p L c V (some ⟨G1, i, none⟩) (by omega) (.inr rfl) hp hr
    have hne : (n = i) = False := eq_false (by omega)
    clear hp hr
    go_enter Try.func29, Try.ntmps29
    go_wp2_with (fail)
    go_end0
    exact ⟨rfl, rfl⟩
  · have e : i = n := by omega
    subst e
    have hk := copy_cells w G1 i 0 0 p L c V (some ⟨G1, 0, none⟩) (by omega) (.inl (by omega)) hp hr
    clear hp hr
    go_enter Try.func29, Try.ntmps29
    go_wp2_with (fail)
    go_end0
    exact ⟨rfl, rfl⟩
set_option maxHeartbeats 1000000 in
theorem put1_any (g o Gs i L c : Nat) (s : ByteArray) (p : Option Addr) (w : World) (hc : w.cell? ⟨Gs, 0, none⟩ = some (.string s)) (hi : i + L ≤ s.size)
    (hp : L = 0 ∨ p = some ⟨g, o, none⟩) (hr : w.there g o L) :
    Calls Try.prog 30 #[.int .i64 (i : Nat), .slice p L c, .pointer (some ⟨Gs, 0, none⟩)] w fun e w' => e = .returned (.tuple #[]) ∧ w' = w.setCells g o (bv (fun j => byt s (i + j)) L) := by
  have b1 : (i : Int) ≤ s.size := by omega
  have hk := copy_text w g o L c (s.extract i s.size) p (by rw [ByteArray.size_extract]; omega) hp hr
  rw [bv_congr (W := fun j => byt s (i + j)) fun j hj => Cha.byt_cut s i s.size j (by omega) (Nat.le_refl _)] at hk
  clear hp hr
  go_enter Try.func30, Try.ntmps30
  go_wp2_with (fail)
  go_end0
  exact ⟨rfl, rfl⟩
end Go.Proofs.Ed
/-
  The developers' aead: a walk over two pieces; their size.
-/
namespace Go.Proofs.Ed
open Go.RowKit Go.Proofs.Ad
open Go.Proofs.Ew (Seg)
open Go.Proofs.Aes (byt byt_lt get_byt)
theorem min2 {P : Program} (W : World) (ts : Array TypeId) (t : TypeId) (a b : Nat) : (Builtin.min_ ts t #[.int .i64 (a : Int), .int .i64 (b : Int)]).run P W = .ok (.int .i64 ((min a b : Nat) : Int)) W := by
  have h2 : ∀ x y : Nat, (Builtin.min2 (.int .i64 (x : Int)) (.int .i64 (y : Int))).run P W = .ok (.int .i64 ((min x y : Nat) : Int)) W := fun x y => by
    have e : (if (y : Int) < (x : Int) then (y : Int) else (x : Int)) = ((min x y : Nat) : Int) := by split <;> omega
    show (pure (Value.int .i64 (if (y : Int) < (x : Int) then (y : Int) else (x : Int))) : Sem Value).run P W = _
    rw [e]; rfl
  simp only [Builtin.min_, List.foldlM, Sem.run_bind, h2, Result.andThen_ok]
  rfl
set_option maxHeartbeats 1000000 in
theorem psize_any (p1 p2 : Option Addr) (k m c1 c2 : Nat) (w : World) (hb : k + m ≤ 9223372036854775807) :
    Calls Try.prog 17 #[.agg #[.slice p1 k c1, .slice p2 m c2]] w fun e w' => e = .returned (.int .i64 ((k + m : Nat) : Int)) ∧ Below w.heap.size w w' := by
  have q : IntKind.i64.wrap ((k : Int) + m) = ((k + m : Nat) : Int) := IntWalk.i64_in _ (by omega)
  go_enter Try.func17, Try.ntmps17
  go_wp2_with (fail)
  go_ret
  exact ⟨rfl, (Below.refl _ _).alloc (Nat.le_refl _) _⟩
set_option maxHeartbeats 2000000 in
set_option maxRecDepth 20000 in
theorem walk_text (q : Value) (p1 p2 : Option Addr) (k m c1 c2 n x y : Nat) (w : World) (I0 I1 I2 : World → Prop) (hk : k ≤ c1) (hm : m ≤ c2) (hn : n ≤ k + m) (hb : k + m ≤ 9223372036854775807)
    (hx : min k n = x) (hy : n - x = y)
    (h0 : ∀ u, Below w.heap.size w u → I0 u)
    (s0 : ∀ u, I0 u → Calls Try.prog 29 #[.int .i64 0, .slice p1 x c1, q] u fun e u' => e = .returned (.tuple #[]) ∧ I1 u')
    (s1 : ∀ u, I1 u → Calls Try.prog 29 #[.int .i64 (x : Nat), .slice p2 y c2, q] u fun e u' => e = .returned (.tuple #[]) ∧ I2 u') :
    Calls Try.prog 28 #[.agg #[.slice p1 k c1, .slice p2 m c2], .int .i64 (n : Nat), .func (.func 29) #[] #[q]] w fun e w' => e = .returned (.tuple #[]) ∧ I2 w' := by
  have S0 := Lib.hid s0
  have S1 := Lib.hid s1
  have hi := h0 (w.alloc (.cells #[.slice p1 k c1, .slice p2 m c2] 40)) ((Below.refl _ _).alloc (Nat.le_refl _) _)
  have HI := Lib.hid hi
  have mn0 : ∀ W : World, (Builtin.min_ #[3, 3] 3 #[.int .i64 (k : Int), .int .i64 (n : Int)]).run Try.prog W = .ok (.int .i64 (x : Int)) W := fun W => by rw [min2, hx]
  have mn1 : ∀ W : World, (Builtin.min_ #[3, 3] 3 #[.int .i64 (m : Int), .int .i64 (y : Int)]).run Try.prog W = .ok (.int .i64 (y : Int)) W := fun W => by rw [min2, Nat.min_eq_right (by omega)]
  have b0 : (x : Int) ≤ c1 := by omega
  have b1 : (y : Int) ≤ c2 := by omega
  have q1 : (n : Int) - (x : Int) = (y : Int) := by omega
  have q2 : IntKind.i64.wrap ((x : Int) + (y : Int)) = (n : Int) := by rw [IntWalk.i64_in _ (by omega)]; omega
  have q3 : IntKind.i64.wrap (y : Int) = (y : Int) := IntWalk.i64_in _ (by omega)
  have q4 : IntKind.i64.wrap (x : Int) = (x : Int) := IntWalk.i64_in _ (by omega)
  have q5 : IntKind.i64.wrap (n : Int) = (n : Int) := IntWalk.i64_in _ (by omega)
  have ix0 : ∀ W : World, (Instr.index 40 (.agg #[.slice p1 k c1, .slice p2 m c2]) (.int .i64 0)).run Try.prog W = .ok (.slice p1 k c1) W := fun W => Im.run_index_row (P := Try.prog) W 40 27 2 #[.slice p1 k c1, .slice p2 m c2] .i64 0 (.slice p1 k c1) Try.underlying40 (by kernel_rfl) _ Try.underlying27 rfl (by decide) rfl
  have ix1 : ∀ W : World, (Instr.index 40 (.agg #[.slice p1 k c1, .slice p2 m c2]) (.int .i64 1)).run Try.prog W = .ok (.slice p2 m c2) W := fun W => Im.run_index_row (P := Try.prog) W 40 27 2 #[.slice p1 k c1, .slice p2 m c2] .i64 1 (.slice p2 m c2) Try.underlying40 (by kernel_rfl) _ Try.underlying27 rfl (by decide) rfl
  clear s0 s1 h0 hi hk hm hx hy hb
  go_enter Try.func28, Try.ntmps28
  go_wp2_with (fail)
  generalize w.alloc (.cells #[.slice p1 k c1, .slice p2 m c2] 40) = w1 at HI ⊢
  refine wp_loop_rounds 3 ?_
  rw [rounds_succ]
  go_wp2_with (go_at_call 29; refine (S0.out _ HI.out).mono ?_; rintro e u ⟨rfl, hu⟩)
  have HJ := Lib.hid hu
  clear hu HI S0 ix0 mn0
  rw [rounds_succ]
  go_wp2_with (go_at_call 29; refine (S1.out _ HJ.out).mono ?_; rintro e v ⟨rfl, hv⟩)
  have HK := Lib.hid hv
  clear hv HJ S1 ix1 mn1
  rw [rounds_succ]
  go_wp2_with (fail)
  go_end0
  exact ⟨rfl, HK.out⟩
set_option maxHeartbeats 2000000 in
set_option maxRecDepth 20000 in
theorem walk_put (q : Value) (p1 p2 : Option Addr) (k m c1 c2 n x y : Nat) (w : World) (I0 I1 I2 : World → Prop) (hk : k ≤ c1) (hm : m ≤ c2) (hn : n ≤ k + m) (hb : k + m ≤ 9223372036854775807)
    (hx : min k n = x) (hy : n - x = y)
    (h0 : ∀ u, Below w.heap.size w u → I0 u)
    (s0 : ∀ u, I0 u → Calls Try.prog 30 #[.int .i64 0, .slice p1 x c1, q] u fun e u' => e = .returned (.tuple #[]) ∧ I1 u')
    (s1 : ∀ u, I1 u → Calls Try.prog 30 #[.int .i64 (x : Nat), .slice p2 y c2, q] u fun e u' => e = .returned (.tuple #[]) ∧ I2 u') :
    Calls Try.prog 28 #[.agg #[.slice p1 k c1, .slice p2 m c2], .int .i64 (n : Nat), .func (.func 30) #[] #[q]] w fun e w' => e = .returned (.tuple #[]) ∧ I2 w' := by
  have S0 := Lib.hid s0
  have S1 := Lib.hid s1
  have hi := h0 (w.alloc (.cells #[.slice p1 k c1, .slice p2 m c2] 40)) ((Below.refl _ _).alloc (Nat.le_refl _) _)
  have HI := Lib.hid hi
  have mn0 : ∀ W : World, (Builtin.min_ #[3, 3] 3 #[.int .i64 (k : Int), .int .i64 (n : Int)]).run Try.prog W = .ok (.int .i64 (x : Int)) W := fun W => by rw [min2, hx]
  have mn1 : ∀ W : World, (Builtin.min_ #[3, 3] 3 #[.int .i64 (m : Int), .int .i64 (y : Int)]).run Try.prog W = .ok (.int .i64 (y : Int)) W := fun W => by rw [min2, Nat.min_eq_right (by omega)]
  have b0 : (x : Int) ≤ c1 := by omega
  have b1 : (y : Int) ≤ c2 := by omega
  have q1 : (n : Int) - (x : Int) = (y : Int) := by omega
  have q2 : IntKind.i64.wrap ((x : Int) + (y : Int)) = (n : Int) := by rw [IntWalk.i64_in _ (by omega)]; omega
  have q3 : IntKind.i64.wrap (y : Int) = (y : Int) := IntWalk.i64_in _ (by omega)
  have q4 : IntKind.i64.wrap (x : Int) = (x : Int) := IntWalk.i64_in _ (by omega)
  have q5 : IntKind.i64.wrap (n : Int) = (n : Int) := IntWalk.i64_in _ (by omega)
  have ix0 : ∀ W : World, (Instr.index 40 (.agg #[.slice p1 k c1, .slice p2 m c2]) (.int .i64 0)).run Try.prog W = .ok (.slice p1 k c1) W := fun W => Im.run_index_row (P := Try.prog) W 40 27 2 #[.slice p1 k c1, .slice p2 m c2] .i64 0 (.slice p1 k c1) Try.underlying40 (by kernel_rfl) _ Try.underlying27 rfl (by decide) rfl
  have ix1 : ∀ W : World, (Instr.index 40 (.agg #[.slice p1 k c1, .slice p2 m c2]) (.int .i64 1)).run Try.prog W = .ok (.slice p2 m c2) W := fun W => Im.run_index_row (P := Try.prog) W 40 27 2 #[.slice p1 k c1, .slice p2 m c2] .i64 1 (.slice p2 m c2) Try.underlying40 (by kernel_rfl) _ Try.underlying27 rfl (by decide) rfl
  clear s0 s1 h0 hi hk hm hx hy hb
  go_enter Try.func28, Try.ntmps28
  go_wp2_with (fail)
  generalize w.alloc (.cells #[.slice p1 k c1, .slice p2 m c2] 40) = w1 at HI ⊢
  refine wp_loop_rounds 3 ?_
  rw [rounds_succ]
  go_wp2_with (go_at_call 30; refine (S0.out _ HI.out).mono ?_; rintro e u ⟨rfl, hu⟩)
  have HJ := Lib.hid hu
  clear hu HI S0 ix0 mn0
  rw [rounds_succ]
  go_wp2_with (go_at_call 30; refine (S1.out _ HJ.out).mono ?_; rintro e v ⟨rfl, hv⟩)
  have HK := Lib.hid hv
  clear hv HJ S1 ix1 mn1
  rw [rounds_succ]
  go_wp2_with (fail)
  go_end0
  exact ⟨rfl, HK.out⟩
end Go.Proofs.Ed
