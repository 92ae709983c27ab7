/-
  The developers' aead: copies between bytes in memory and texts; the two steps of a walk over pieces.
-/
import Derived.Test.YtljhenjbjondkaaGreatJoax
import Derived.Test.YtljhenjbjondkaaGreatJoby
import Derived.Lib.LazyBuf
import Derived.Laws.IdiomCopy
namespace Go.Proofs.Ed
open Go.RowKit Go.Proofs.Ad
open Go.Proofs.Ew (Seg)
open Go.Proofs.Aes (byt byt_lt get_byt)
/-- Bytes as values. -/
def bv (V : Nat → Nat) (n : Nat) : List Value := (List.range n).map fun j => .int .u8 (V j : Nat)
theorem bv_len (V : Nat → Nat) (n : Nat) : (bv V n).length = n := by simp [bv]
theorem bv_get (V : Nat → Nat) (n j : Nat) (h : j < n) : (bv V n)[j]? = some (.int .u8 (V j : Nat)) := by simp [bv, h]
theorem bv_some (V : Nat → Nat) (n j : Nat) (v : Value) (h : (bv V n)[j]? = some v) : j < n ∧ v = .int .u8 (V j : Nat) := by
  have hj : j < n := by have := (List.getElem?_eq_some_iff.1 h).1; rwa [bv_len] at this
  rw [bv_get V n j hj] at h
  exact ⟨hj, (Option.some.inj h).symm⟩
theorem bv_congr {V W : Nat → Nat} {n : Nat} (h : ∀ j, j < n → V j = W j) : bv V n = bv W n := List.map_congr_left fun j hj => by rw [h j (List.mem_range.1 hj)]
theorem bv_one (V : Nat → Nat) (n : Nat) : ∀ v ∈ bv V n, v.oneCell' = true := by
  intro v hv
  simp only [bv, List.mem_map] at hv
  obtain ⟨_, _, rfl⟩ := hv
  rfl
theorem copy_cells (w : World) (g o d c : Nat) (p : Option Addr) (L c' : Nat) (V : Nat → Nat) (q : Option Addr) (hL : L ≤ d) (hq : L = 0 ∨ q = some ⟨g, o, none⟩)
    (hp : L = 0 ∨ ∃ a, p = some a ∧ ∀ j, j < L → w.cell? (a.add j) = some (.int .u8 (V j : Nat))) (hr : w.there g o L) :
    (Builtin.copy_ #[35, 35] 3 #[.slice q d c, .slice p L c']).run Tryz.prog w = .ok (goInt L) (w.setCells g o (bv V L)) := by
  rcases Nat.eq_zero_or_pos L with h0 | h0
  · subst h0
    exact run_copy_none (P := Tryz.prog) w 35 35 3 5 q p d c 0 c' Tryz.underlying35 (by kernel_rfl) (Nat.zero_min _)
  · obtain ⟨a, rfl, hc⟩ := hp.resolve_left (by omega)
    rw [hq.resolve_left (by omega)]
    have h := run_copy_cells (P := Tryz.prog) w 35 35 3 5 g o d c a L c' (bv V L) Tryz.underlying35 (by kernel_rfl) (by rw [bv_len]; exact (Nat.min_eq_left hL).symm)
      (fun j v hv => by obtain ⟨hj, rfl⟩ := bv_some V L j v hv; exact hc j hj) (fun j hj => (hr j (by rwa [bv_len] at hj)).1) (fun j hj => (hr j (by rwa [bv_len] at hj)).2) (bv_one V L)
    rw [bv_len] at h
    exact h
theorem bytes_bv (t : ByteArray) (L : Nat) (h : L ≤ t.size) : List.take L (List.map (fun b : UInt8 => Value.int IntKind.u8 (b.toNat : Int)) t.data.toList) = bv (byt t) L := by
  apply List.ext_getElem?
  intro j
  by_cases hj : j < L
  · rw [bv_get _ _ _ hj, List.getElem?_take_of_lt hj, List.getElem?_map, Array.getElem?_toList, Array.getElem?_eq_getElem (show j < t.data.size from Nat.lt_of_lt_of_le hj h), ← get_byt t j (Nat.lt_of_lt_of_le hj h)]
    rfl
  · rw [List.getElem?_eq_none (l := bv (byt t) L) (by rw [bv_len]; omega), List.getElem?_eq_none (by rw [List.length_take]; omega)]
/-- 'copy(dst, s)' of a text at least as long as dst. -/
theorem copy_text (w : World) (g o L c : Nat) (t : ByteArray) (q : Option Addr) (hL : L ≤ t.size) (hq : L = 0 ∨ q = some ⟨g, o, none⟩) (hr : w.there g o L) :
    (Builtin.copy_ #[35, 9] 3 #[.slice q L c, .string t]).run Tryz.prog w = .ok (goInt L) (w.setCells g o (bv (byt t) L)) := by
  have hz : ∀ w, (Go.sizeOf 5).run Tryz.prog w = .ok 1 w := fun w => by
    have hi : (Tryz.prog.info? 5).map (·.size) = some 1 := by kernel_rfl
    cases hq : Tryz.prog.info? 5 with
    | none => simp [hq] at hi
    | some i => simp [hq] at hi; simp [sizeOf, typeInfo, hq, hi]
  have hmin : Nat.min t.size L = L := Nat.min_eq_right hL
  have htk := bytes_bv t L hL
  rcases Nat.eq_zero_or_pos L with h0 | h0
  · subst h0
    cases q <;> simp [Builtin.copy_, run_underlying Tryz.underlying35, Builtin.lenOf, Builtin.firstCells, hz, storeCells, bv, World.setCells]
  · rw [hq.resolve_left (by omega)]
    have hst := run_storeCells_cells (P := Tryz.prog) g o (bv (byt t) L) 0 w (fun j hj => by rw [Nat.add_zero]; exact (hr j (by rwa [bv_len] at hj)).1) (fun j hj => by rw [Nat.add_zero]; exact (hr j (by rwa [bv_len] at hj)).2) (bv_one _ _)
    simp only [Nat.add_zero] at hst
    simp [Builtin.copy_, run_underlying Tryz.underlying35, Builtin.lenOf, Builtin.firstCells, hz, hmin]
    rw [htk, hst]
    rfl
set_option maxHeartbeats 1000000 in
theorem text1_any (G1 G2 i n L c : Nat) (p : Option Addr) (V : Nat → Nat) (w : World) (hc : w.cell? ⟨G2, 0, none⟩ = some (.slice (some ⟨G1, 0, none⟩) n n)) (hi : i + L ≤ n) (hn : n ≤ 1000000)
    (hp : L = 0 ∨ ∃ a, p = some a ∧ ∀ j, j < L → w.cell? (a.add j) = some (.int .u8 (V j : Nat))) (hr : w.there G1 i L) :
    Calls Tryz.prog 40 #[.int .i64 (i : Nat), .slice p L c, .pointer (some ⟨G2, 0, none⟩)] w fun e w' => e = .returned (.tuple #[]) ∧ w' = w.setCells G1 i (bv V L) := by
  have b1 : (i : Int) ≤ n := by omega
  rcases Nat.lt_or_ge i n with h | h
  · have hk := copy_cells w G1 i (n - i) (n - i) p L c V (some ⟨G1, i, none⟩) (by omega) (.inr rfl) hp hr
    have hne : (n = i) = False := eq_false (by omega)
    clear hp hr
    go_enter Tryz.func40, Tryz.ntmps40
    go_wp2_with (fail)
    go_end0
    exact ⟨rfl, rfl⟩
  · have e : i = n := by omega
    subst e
    have hk := copy_cells w G1 i 0 0 p L c V (some ⟨G1, 0, none⟩) (by omega) (.inl (by omega)) hp hr
    clear hp hr
    go_enter Tryz.func40, Tryz.ntmps40
    go_wp2_with (fail)
    go_end0
    exact ⟨rfl, rfl⟩
set_option maxHeartbeats 1000000 in
theorem put1_any (g o Gs i L c : Nat) (s : ByteArray) (p : Option Addr) (w : World) (hc : w.cell? ⟨Gs, 0, none⟩ = some (.string s)) (hi : i + L ≤ s.size)
    (hp : L = 0 ∨ p = some ⟨g, o, none⟩) (hr : w.there g o L) :
    Calls Tryz.prog 41 #[.int .i64 (i : Nat), .slice p L c, .pointer (some ⟨Gs, 0, none⟩)] w fun e w' => e = .returned (.tuple #[]) ∧ w' = w.setCells g o (bv (fun j => byt s (i + j)) L) := by
  have b1 : (i : Int) ≤ s.size := by omega
  have hk := copy_text w g o L c (s.extract i s.size) p (by rw [ByteArray.size_extract]; omega) hp hr
  rw [bv_congr (W := fun j => byt s (i + j)) fun j hj => Cha.byt_cut s i s.size j (by omega) (Nat.le_refl _)] at hk
  clear hp hr
  go_enter Tryz.func41, Tryz.ntmps41
  go_wp2_with (fail)
  go_end0
  exact ⟨rfl, rfl⟩
end Go.Proofs.Ed
/-
  The developers' aead: a walk over two pieces; their size.
-/
namespace Go.Proofs.Ed
open Go.RowKit Go.Proofs.Ad
open Go.Proofs.Ew (Seg)
open Go.Proofs.Aes (byt byt_lt get_byt)
theorem min2 {P : Program} (W : World) (ts : Array TypeId) (t : TypeId) (a b : Nat) : (Builtin.min_ ts t #[.int .i64 (a : Int), .int .i64 (b : Int)]).run P W = .ok (.int .i64 ((min a b : Nat) : Int)) W := by
  have h2 : ∀ x y : Nat, (Builtin.min2 (.int .i64 (x : Int)) (.int .i64 (y : Int))).run P W = .ok (.int .i64 ((min x y : Nat) : Int)) W := fun x y => by
    have e : (if (y : Int) < (x : Int) then (y : Int) else (x : Int)) = ((min x y : Nat) : Int) := by split <;> omega
    show (pure (Value.int .i64 (if (y : Int) < (x : Int) then (y : Int) else (x : Int))) : Sem Value).run P W = _
    rw [e]; rfl
  simp only [Builtin.min_, List.foldlM, Sem.run_bind, h2, Result.andThen_ok]
  rfl
set_option maxHeartbeats 1000000 in
theorem psize_any (p1 p2 : Option Addr) (k m c1 c2 : Nat) (w : World) (hb : k + m ≤ 9223372036854775807) :
    Calls Tryz.prog 24 #[.agg #[.slice p1 k c1, .slice p2 m c2]] w fun e w' => e = .returned (.int .i64 ((k + m : Nat) : Int)) ∧ Below w.heap.size w w' := by
  have q : IntKind.i64.wrap ((k : Int) + m) = ((k + m : Nat) : Int) := IntWalk.i64_in _ (by omega)
  go_enter Tryz.func24, Tryz.ntmps24
  go_wp2_with (fail)
  go_ret
  exact ⟨rfl, (Below.refl _ _).alloc (Nat.le_refl _) _⟩
set_option maxHeartbeats 2000000 in
set_option maxRecDepth 20000 in
theorem walk_text (q : Value) (p1 p2 : Option Addr) (k m c1 c2 n x y : Nat) (w : World) (I0 I1 I2 : World → Prop) (hk : k ≤ c1) (hm : m ≤ c2) (hn : n ≤ k + m) (hb : k + m ≤ 9223372036854775807)
    (hx : min k n = x) (hy : n - x = y)
    (h0 : ∀ u, Below w.heap.size w u → I0 u)
    (s0 : ∀ u, I0 u → Calls Tryz.prog 40 #[.int .i64 0, .slice p1 x c1, q] u fun e u' => e = .returned (.tuple #[]) ∧ I1 u')
    (s1 : ∀ u, I1 u → Calls Tryz.prog 40 #[.int .i64 (x : Nat), .slice p2 y c2, q] u fun e u' => e = .returned (.tuple #[]) ∧ I2 u') :
    Calls Tryz.prog 39 #[.agg #[.slice p1 k c1, .slice p2 m c2], .int .i64 (n : Nat), .func (.func 40) #[] #[q]] w fun e w' => e = .returned (.tuple #[]) ∧ I2 w' := by
  have S0 := Lib.hid s0
  have S1 := Lib.hid s1
  have hi := h0 (w.alloc (.cells #[.slice p1 k c1, .slice p2 m c2] 44)) ((Below.refl _ _).alloc (Nat.le_refl _) _)
  have HI := Lib.hid hi
  have mn0 : ∀ W : World, (Builtin.min_ #[3, 3] 3 #[.int .i64 (k : Int), .int .i64 (n : Int)]).run Tryz.prog W = .ok (.int .i64 (x : Int)) W := fun W => by rw [min2, hx]
  have mn1 : ∀ W : World, (Builtin.min_ #[3, 3] 3 #[.int .i64 (m : Int), .int .i64 (y : Int)]).run Tryz.prog W = .ok (.int .i64 (y : Int)) W := fun W => by rw [min2, Nat.min_eq_right (by omega)]
  have b0 : (x : Int) ≤ c1 := by omega
  have b1 : (y : Int) ≤ c2 := by omega
  have q1 : (n : Int) - (x : Int) = (y : Int) := by omega
  have q2 : IntKind.i64.wrap ((x : Int) + (y : Int)) = (n : Int) := by rw [IntWalk.i64_in _ (by omega)]; omega
  have q3 : IntKind.i64.wrap (y : Int) = (y : Int) := IntWalk.i64_in _ (by omega)
  have q4 : IntKind.i64.wrap (x : Int) = (x : Int) := IntWalk.i64_in _ (by omega)
  have q5 : IntKind.i64.wrap (n : Int) = (n : Int) := IntWalk.i64_in _ (by omega)
  have ix0 : ∀ W : World, (Instr.index 44 (.agg #[.slice p1 k c1, .slice p2 m c2]) (.int .i64 0)).run Tryz.prog W = .ok (.slice p1 k c1) W := fun W => Im.run_index_row (P := Tryz.prog) W 44 35 2 #[.slice p1 k c1, .slice p2 m c2] .i64 0 (.slice p1 k c1) Tryz.underlying44 (by kernel_rfl) _ Tryz.underlying35 rfl (by decide) rfl
  have ix1 : ∀ W : World, (Instr.index 44 (.agg #[.slice p1 k c1, .slice p2 m c2]) (.int .i64 1)).run Tryz.prog W = .ok (.slice p2 m c2) W := fun W => Im.run_index_row (P := Tryz.prog) W 44 35 2 #[.slice p1 k c1, .slice p2 m c2] .i64 1 (.slice p2 m c2) Tryz.underlying44 (by kernel_rfl) _ Tryz.underlying35 rfl (by decide) rfl
  clear s0 s1 h0 hi hk hm hx hy hb
  go_enter Tryz.func39, Tryz.ntmps39
  go_wp2_with (fail)
  generalize w.alloc (.cells #[.slice p1 k c1, .slice p2 m c2] 44) = w1 at HI ⊢
  refine wp_loop_rounds 3 ?_
  rw [rounds_succ]
  go_wp2_with (go_at_call 40; refine (S0.out _ HI.out).mono ?_; rintro e u ⟨rfl, hu⟩)
  have HJ := Lib.hid hu
  clear hu HI S0 ix0 mn0
  rw [rounds_succ]
  go_wp2_with (go_at_call 40; refine (S1.out _ HJ.out).mono ?_; rintro e v ⟨rfl, hv⟩)
  have HK := Lib.hid hv
  clear hv HJ S1 ix1 mn1
  rw [rounds_succ]
  go_wp2_with (fail)
  go_end0
  exact ⟨rfl, HK.out⟩
set_option maxHeartbeats 2000000 in
set_option maxRecDepth 20000 in
theorem walk_put (q : Value) (p1 p2 : Option Addr) (k m c1 c2 n x y : Nat) (w : World) (I0 I1 I2 : World → Prop) (hk : k ≤ c1) (hm : m ≤ c2) (hn : n ≤ k + m) (hb : k + m ≤ 9223372036854775807)
    (hx : min k n = x) (hy : n - x = y)
    (h0 : ∀ u, Below w.heap.size w u → I0 u)
    (s0 : ∀ u, I0 u → Calls Tryz.prog 41 #[.int .i64 0, .slice p1 x c1, q] u fun e u' => e = .returned (.tuple #[]) ∧ I1 u')
    (s1 : ∀ u, I1 u → Calls Tryz.prog 41 #[.int .i64 (x : Nat), .slice p2 y c2, q] u fun e u' => e = .returned (.tuple #[]) ∧ I2 u') :
    Calls Tryz.prog 39 #[.agg #[.slice p1 k c1, .slice p2 m c2], .int .i64 (n : Nat), .func (.func 41) #[] #[q]] w fun e w' => e = .returned (.tuple #[]) ∧ I2 w' := by
  have S0 := Lib.hid s0
  have S1 := Lib.hid s1
  have hi := h0 (w.alloc (.cells #[.slice p1 k c1, .slice p2 m c2] 44)) ((Below.refl _ _).alloc (Nat.le_refl _) _)
  have HI := Lib.hid hi
  have mn0 : ∀ W : World, (Builtin.min_ #[3, 3] 3 #[.int .i64 (k : Int), .int .i64 (n : Int)]).run Tryz.prog W = .ok (.int .i64 (x : Int)) W := fun W => by rw [min2, hx]
  have mn1 : ∀ W : World, (Builtin.min_ #[3, 3] 3 #[.int .i64 (m : Int), .int .i64 (y : Int)]).run Tryz.prog W = .ok (.int .i64 (y : Int)) W := fun W => by rw [min2, Nat.min_eq_right (by omega)]
  have b0 : (x : Int) ≤ c1 := by omega
  have b1 : (y : Int) ≤ c2 := by omega
  have q1 : (n : Int) - (x : Int) = (y : Int) := by omega
  have q2 : IntKind.i64.wrap ((x : Int) + (y : Int)) = (n : Int) := by rw [IntWalk.i64_in _ (by omega)]; omega
  have q3 : IntKind.i64.wrap (y : Int) = (y : Int) := IntWalk.i64_in _ (by omega)
  have q4 : IntKind.i64.wrap (x : Int) = (x : Int) := IntWalk.i64_in _ (by omega)
  have q5 : IntKind.i64.wrap (n : Int) = (n : Int) := IntWalk.i64_in _ (by omega)
  have ix0 : ∀ W : World, (Instr.index 44 (.agg #[.slice p1 k c1, .slice p2 m c2]) (.int .i64 0)).run Tryz.prog W = .ok (.slice p1 k c1) W := fun W => Im.run_index_row (P := Tryz.prog) W 44 35 2 #[.slice p1 k c1, .slice p2 m c2] .i64 0 (.slice p1 k c1) Tryz.underlying44 (by kernel_rfl) _ Tryz.underlying35 rfl (by decide) rfl
  have ix1 : ∀ W : World, (Instr.index 44 (.agg #[.slice p1 k c1, .slice p2 m c2]) (.int .i64 1)).run Tryz.prog W = .ok (.slice p2 m c2) W := fun W => Im.run_index_row (P := Tryz.prog) W 44 35 2 #[.slice p1 k c1, .slice p2 m c2] .i64 1 (.slice p2 m c2) Tryz.underlying44 (by kernel_rfl) _ Tryz.underlying35 rfl (by decide) rfl
  clear s0 s1 h0 hi hk hm hx hy hb
  go_enter Tryz.func39, Tryz.ntmps39
  go_wp2_with (fail)
  generalize w.alloc (.cells #[.slice p1 k c1, .slice p2 m c2] 44) = w1 at HI ⊢
  refine wp_loop_rounds 3 ?_
  rw [rounds_succ]
  go_wp2_with (go_at_call 41; refine (S0.out _ HI.out).mono ?_; rintro e u ⟨rfl, hu⟩)
  have HJ := Lib.hid hu
  clear hu HI S0 ix0 mn0
  rw [rounds_succ]
  go_wp2_with (go_at_call 41; refine (S1.out _ HJ.out).mono ?_; rintro e v ⟨rfl, hv⟩)
  have HK := Lib.hid hv
  clear hv HJ S1 ix1 mn1
  rw [rounds_succ]
  go_wp2_with (fail)
  go_end0
  exact ⟨rfl, HK.out⟩
end Go.Proofs.Ed
/-
  The developers' aead: what lies in memory while two pieces are walked over.
-/
namespace Go.Proofs.Ed
open Go.RowKit Go.Proofs.Ad
open Go.Proofs.Ew (Seg)
open Go.Proofs.Pd (But)
open Go.Proofs.Aes (byt byt_lt get_byt)
theorem Seg.there {w : World} {g o n : Nat} {X : Nat → Nat} (h : Seg w g o n X) (i L : Nat) (hi : i + L ≤ n) : w.there g (o + i) L := fun j hj => by
  rw [Nat.add_assoc]
  exact ⟨by rw [(h.2 (i + j) (by omega)).1]; rfl, (h.2 (i + j) (by omega)).2⟩
theorem setCells_size (b : Nat) : ∀ (vs : List Value) (o : Nat) (w : World), (w.setCells b o vs).heap.size = w.heap.size
  | [], _, _ => rfl
  | v :: r, o, w => (setCells_size b r (o + 1) _).trans (by simp [World.setCell])
theorem Seg.write {w : World} {g o n : Nat} {X : Nat → Nat} (h : Seg w g o n X) (i L : Nat) (V : Nat → Nat) (hi : i + L ≤ n) : Seg (w.setCells g (o + i) (bv V L)) g o n (fun t => if i ≤ t ∧ t < i + L then V (t - i) else X t) := by
  refine ⟨by rw [setCells_size]; exact h.1, fun t ht => ⟨?_, by rw [World.frozen?_setCells]; exact (h.2 t ht).2⟩⟩
  by_cases hc : i ≤ t ∧ t < i + L
  · have e := World.cell?_setCells_in g (bv V L) (o + i) w (fun j hj => by rw [bv_len] at hj; rw [Nat.add_assoc, (h.2 (i + j) (by omega)).1]; rfl) (t - i) (by rw [bv_len]; omega)
    rw [show o + i + (t - i) = o + t by omega] at e
    rw [e]
    show _ = some (Value.int .u8 (((if i ≤ t ∧ t < i + L then V (t - i) else X t : Nat)) : Int))
    rw [if_pos hc, ← bv_get V L (t - i) (by omega)]
    exact (List.getElem?_eq_getElem (by rw [bv_len]; omega)).symm
  · rw [World.cell?_setCells_out g (bv V L) (o + i) w ⟨g, o + t, none⟩ (fun _ _ => by rw [bv_len]; show o + t < o + i ∨ o + i + L ≤ o + t; omega)]
    show _ = some (Value.int .u8 (((if i ≤ t ∧ t < i + L then V (t - i) else X t : Nat)) : Int))
    rw [if_neg hc]
    exact (h.2 t ht).1
theorem But.setCells {g : Nat} {a : World} : ∀ (vs : List Value) (o : Nat) (w : World), But g a w → But g a (w.setCells g o vs)
  | [], _, _, h => h
  | v :: r, o, _, h => But.setCells r (o + 1) _ (h.setCell o v)
/-- While a text is gathered: the first i bytes stand in row G1, which the variable at G2 holds. -/
structure Tx (w u : World) (G1 G2 n i : Nat) (X : Nat → Nat) : Prop where
  below : Below w.heap.size w u
  var : u.cell? ⟨G2, 0, none⟩ = some (.slice (some ⟨G1, 0, none⟩) n n)
  row : Seg u G1 0 n (fun t => if t < i then X t else 0)
  le : w.heap.size ≤ G1
  le2 : w.heap.size ≤ G2
  ne : G2 ≠ G1
  lt : G2 < u.heap.size
theorem Tx.on {w u v : World} {G1 G2 n i : Nat} {X : Nat → Nat} (h : Tx w u G1 G2 n i X) (hb : Below u.heap.size u v) : Tx w v G1 G2 n i X :=
  ⟨Lw.go_on h.below hb, (hb.cell (p := ⟨G2, 0, none⟩) h.lt).trans h.var, h.row.on hb, h.le, h.le2, h.ne, Nat.lt_of_lt_of_le h.lt hb.size⟩
theorem Tx.set {w u : World} {G1 G2 n i : Nat} {X : Nat → Nat} (h : Tx w u G1 G2 n i X) (L : Nat) (hi : i + L ≤ n) : Tx w (u.setCells G1 i (bv (fun j => X (i + j)) L)) G1 G2 n (i + L) X := by
  have hw := Seg.write h.row i L (fun j => X (i + j)) hi
  rw [Nat.zero_add] at hw
  refine ⟨below_setCells h.le _ _ _ h.below, ?_, hw.congr fun t ht => ?_, h.le, h.le2, h.ne, by rw [setCells_size]; exact h.lt⟩
  · rw [World.cell?_setCells_out G1 _ i u ⟨G2, 0, none⟩ (fun c _ => absurd c h.ne)]
    exact h.var
  · by_cases hc : i ≤ t ∧ t < i + L
    · rw [if_pos hc, if_pos hc.2, show i + (t - i) = t by omega]
    · rw [if_neg hc]
      by_cases h1 : t < i
      · rw [if_pos h1, if_pos (by omega)]
      · rw [if_neg h1, if_neg (by omega)]
set_option maxHeartbeats 1000000 in
theorem Tx.step {w u : World} {G1 G2 n i N g o : Nat} {X : Nat → Nat} (h : Tx w u G1 G2 n i X) (hS : Seg w g o N X) (L c : Nat) (p : Option Addr) (hi : i + L ≤ n) (hN : i + L ≤ N) (hn : n ≤ 1000000) (hp : L = 0 ∨ p = some ⟨g, o + i, none⟩) :
    Calls Tryz.prog 40 #[.int .i64 (i : Nat), .slice p L c, .pointer (some ⟨G2, 0, none⟩)] u fun e u' => e = .returned (.tuple #[]) ∧ Tx w u' G1 G2 n (i + L) X := by
  have hSu := hS.on h.below
  have ht := Seg.there h.row i L hi
  rw [Nat.zero_add] at ht
  refine (text1_any G1 G2 i n L c p (fun j => X (i + j)) u h.var hi hn (hp.imp id fun e => ⟨_, e, fun j hj => ?_⟩) ht).mono fun e u' ⟨h1, h2⟩ => ⟨h1, by rw [h2]; exact h.set L hi⟩
  have := (hSu.2 (i + j) (by omega)).1
  rw [← Nat.add_assoc] at this
  rw [← this]
  cases j <;> simp [Addr.add]
/-- While a text is put: its first i bytes stand over what was there; block Gs holds it. -/
structure Px (w u : World) (g o n Gs i : Nat) (s : ByteArray) (X : Nat → Nat) : Prop where
  but : But g w u
  var : u.cell? ⟨Gs, 0, none⟩ = some (.string s)
  row : Seg u g o n (fun t => if t < i then byt s t else X t)
  ne : Gs ≠ g
  lt : Gs < u.heap.size
theorem Px.on {w u v : World} {g o n Gs i : Nat} {s : ByteArray} {X : Nat → Nat} (h : Px w u g o n Gs i s X) (hb : Below u.heap.size u v) : Px w v g o n Gs i s X :=
  ⟨h.but.on hb, (hb.cell (p := ⟨Gs, 0, none⟩) h.lt).trans h.var, h.row.on hb, h.ne, Nat.lt_of_lt_of_le h.lt hb.size⟩
theorem Px.set {w u : World} {g o n Gs i : Nat} {s : ByteArray} {X : Nat → Nat} (h : Px w u g o n Gs i s X) (L : Nat) (hi : i + L ≤ n) : Px w (u.setCells g (o + i) (bv (fun j => byt s (i + j)) L)) g o n Gs (i + L) s X := by
  refine ⟨But.setCells _ _ _ h.but, ?_, (Seg.write h.row i L (fun j => byt s (i + j)) hi).congr fun t ht => ?_, h.ne, by rw [setCells_size]; exact h.lt⟩
  · rw [World.cell?_setCells_out g _ (o + i) u ⟨Gs, 0, none⟩ (fun c _ => absurd c h.ne)]
    exact h.var
  · by_cases hc : i ≤ t ∧ t < i + L
    · rw [if_pos hc, if_pos hc.2, show i + (t - i) = t by omega]
    · rw [if_neg hc]
      by_cases h1 : t < i
      · rw [if_pos h1, if_pos (by omega)]
      · rw [if_neg h1, if_neg (by omega)]
theorem Px.step {w u : World} {g o n Gs i : Nat} {s : ByteArray} {X : Nat → Nat} (h : Px w u g o n Gs i s X) (L c : Nat) (p : Option Addr) (hi : i + L ≤ n) (hs : i + L ≤ s.size) (hp : L = 0 ∨ p = some ⟨g, o + i, none⟩) :
    Calls Tryz.prog 41 #[.int .i64 (i : Nat), .slice p L c, .pointer (some ⟨Gs, 0, none⟩)] u fun e u' => e = .returned (.tuple #[]) ∧ Px w u' g o n Gs (i + L) s X :=
  (put1_any g (o + i) Gs i L c s p u h.var hs hp (Seg.there h.row i L hi)).mono fun e u' ⟨h1, h2⟩ => ⟨h1, by rw [h2]; exact h.set L hi⟩
end Go.Proofs.Ed
/-
  The developers' aead: two pieces' text; a text put over them.
-/
namespace Go.Proofs.Ed
open Go.RowKit Go.Proofs.Ad
open Go.Proofs.Ew (Seg)
open Go.Proofs.Pd (But)
open Go.Proofs.Lw (pieceS)
open Go.Proofs.Aes (byt byt_lt get_byt)
theorem tx_new (w : World) (A : Obj) (M : Array Value) (N : Nat) (X : Nat → Nat) (hM : M.size = N) (hMc : ∀ i, i < N → M[i]? = some (.int .u8 0)) :
    Tx w (((w.alloc A).alloc (.cells M 5)).alloc (.cells #[.slice (some ⟨w.heap.size + 1, 0, none⟩) N N] 35)) (w.heap.size + 1) (w.heap.size + 1 + 1) N 0 X := by
  have b1 : Below w.heap.size w (w.alloc A) := (Below.refl _ _).alloc (Nat.le_refl _) _
  have e1 : (w.alloc A).heap.size = w.heap.size + 1 := by simp
  have e2 : ((w.alloc A).alloc (.cells M 5)).heap.size = w.heap.size + 1 + 1 := by simp
  have b2 : Below w.heap.size w ((w.alloc A).alloc (.cells M 5)) := b1.alloc b1.size _
  have hr := Lw.rowB_new (w.alloc A) M N hM hMc
  rw [e1] at hr
  have hs := Ew.Seg.of_row hr 0 N (by omega)
  have bb : Below ((w.alloc A).alloc (.cells M 5)).heap.size ((w.alloc A).alloc (.cells M 5)) (((w.alloc A).alloc (.cells M 5)).alloc (.cells #[.slice (some ⟨w.heap.size + 1, 0, none⟩) N N] 35)) := (Below.refl _ _).alloc (Nat.le_refl _) _
  refine ⟨b2.alloc b2.size _, ?_, (hs.on bb).congr fun t _ => by simp, by omega, by omega, by omega, by simp⟩
  rw [World.cell?_alloc_at _ _ _ _ (by simp)]
  rfl
set_option maxHeartbeats 2000000 in
set_option maxRecDepth 20000 in
theorem ptext_any (g o k m n c1 c2 N : Nat) (p1 p2 : Option Addr) (X : Nat → Nat) (w : World) (h : Seg w g o n X) (h1 : k = 0 ∨ p1 = some ⟨g, o, none⟩) (h2 : m = 0 ∨ p2 = some ⟨g, o + k, none⟩) (hk : k + m = n) (hc1 : k ≤ c1) (hc2 : m ≤ c2) (hN : N ≤ n) (hN2 : N ≤ 1000000) (hn : n ≤ 9223372036854775807) :
    Calls Tryz.prog 25 #[.agg #[.slice p1 k c1, .slice p2 m c2], .int .i64 (N : Nat)] w fun e w' => e = .returned (.string (pieceS X 0 N)) ∧ Below w.heap.size w w' := by
  obtain ⟨M, hM, hMc, hmk⟩ := Lw.zeros N hN2
  have hmf : ∀ (fn : Fn) (first cap : Array Value) (w : World), (Instr.makeFunc fn first cap).run Tryz.prog w = .ok (.func fn first cap) w := fun _ _ _ _ => rfl
  have HT := Lib.hid (tx_new w (.cells #[.slice p1 k c1, .slice p2 m c2] 44) M N X hM hMc)
  obtain ⟨x, hx⟩ : ∃ x, min k N = x := ⟨_, rfl⟩
  obtain ⟨y, hy⟩ : ∃ y, N - x = y := ⟨_, rfl⟩
  have HW := Lib.hid fun (W : World) (hW : Tx w W (w.heap.size + 1) (w.heap.size + 1 + 1) N 0 X) =>
    walk_text (.pointer (some ⟨w.heap.size + 1 + 1, 0, none⟩)) p1 p2 k m c1 c2 N x y W (fun u => Tx w u (w.heap.size + 1) (w.heap.size + 1 + 1) N 0 X) (fun u => Tx w u (w.heap.size + 1) (w.heap.size + 1 + 1) N x X) (fun u => Tx w u (w.heap.size + 1) (w.heap.size + 1 + 1) N N X)
      hc1 hc2 (by omega) (by omega) hx hy (fun u hb => hW.on hb)
      (fun u hu => by
        have := hu.step h x c1 p1 (by omega) (by omega) hN2 (h1.imp (fun e => by omega) id)
        rw [Nat.zero_add] at this
        exact this)
      (fun u hu => by
        have := hu.step h y c2 p2 (by omega) (by omega) hN2 (by rcases h2 with e | e; exact .inl (by omega); rcases Nat.eq_zero_or_pos y with e0 | e0; exact .inl e0; exact .inr (by rw [e, show x = k by omega]))
        rw [show x + y = N by omega] at this
        exact this)
  clear h h1 h2 hk hc1 hc2 hN hN2 hn hM hMc hx hy
  go_enter Tryz.func25, Tryz.ntmps25
  go_wp2_with (go_at_call 39; fail)
  refine (HW.out _ HT.out).mono ?_
  clear HW HT hmk hmf
  rintro e u ⟨rfl, hu⟩
  have hv := hu.var
  have hcv := (hu.row.congr (Y := X) fun t ht => if_pos ht).text N
  have HB := Lib.hid hu.below
  clear hu
  go_wp2_with (fail)
  go_ret
  exact ⟨rfl, HB.out⟩
theorem px_new (w : World) (A : Obj) (g o n : Nat) (s : ByteArray) (X : Nat → Nat) (h : Seg w g o n X) : Px w ((w.alloc A).alloc (.cells #[.string s] 9)) g o n (w.heap.size + 1) 0 s X := by
  have b1 : Below w.heap.size w (w.alloc A) := (Below.refl _ _).alloc (Nat.le_refl _) _
  have b2 : Below w.heap.size w ((w.alloc A).alloc (.cells #[.string s] 9)) := b1.alloc b1.size _
  have hg := h.lt
  refine ⟨But.of_below b2, ?_, (h.on b2).congr fun t _ => by simp, by omega, by simp⟩
  rw [World.cell?_alloc_at _ _ _ _ (by simp)]
  rfl
set_option maxHeartbeats 2000000 in
set_option maxRecDepth 20000 in
theorem pput_any (g o k m n c1 c2 : Nat) (s : ByteArray) (p1 p2 : Option Addr) (X : Nat → Nat) (w : World) (h : Seg w g o n X) (h1 : k = 0 ∨ p1 = some ⟨g, o, none⟩) (h2 : m = 0 ∨ p2 = some ⟨g, o + k, none⟩) (hk : k + m = n) (hc1 : k ≤ c1) (hc2 : m ≤ c2) (hN : s.size ≤ n) (hn : n ≤ 9223372036854775807) :
    Calls Tryz.prog 26 #[.agg #[.slice p1 k c1, .slice p2 m c2], .string s] w fun e w' => e = .returned (.tuple #[]) ∧ But g w w' ∧ Seg w' g o n (fun t => if t < s.size then byt s t else X t) := by
  have hmf : ∀ (fn : Fn) (first cap : Array Value) (w : World), (Instr.makeFunc fn first cap).run Tryz.prog w = .ok (.func fn first cap) w := fun _ _ _ _ => rfl
  have HT := Lib.hid (px_new w (.cells #[.slice p1 k c1, .slice p2 m c2] 44) g o n s X h)
  obtain ⟨N, hNs⟩ : ∃ N, s.size = N := ⟨_, rfl⟩
  obtain ⟨x, hx⟩ : ∃ x, min k N = x := ⟨_, rfl⟩
  obtain ⟨y, hy⟩ : ∃ y, N - x = y := ⟨_, rfl⟩
  have HW := Lib.hid fun (W : World) (hW : Px w W g o n (w.heap.size + 1) 0 s X) =>
    walk_put (.pointer (some ⟨w.heap.size + 1, 0, none⟩)) p1 p2 k m c1 c2 N x y W (fun u => Px w u g o n (w.heap.size + 1) 0 s X) (fun u => Px w u g o n (w.heap.size + 1) x s X) (fun u => Px w u g o n (w.heap.size + 1) N s X)
      hc1 hc2 (by omega) (by omega) hx hy (fun u hb => hW.on hb)
      (fun u hu => by
        have := hu.step x c1 p1 (by omega) (by omega) (h1.imp (fun e => by omega) id)
        rw [Nat.zero_add] at this
        exact this)
      (fun u hu => by
        have := hu.step y c2 p2 (by omega) (by omega) (by rcases h2 with e | e; exact .inl (by omega); rcases Nat.eq_zero_or_pos y with e0 | e0; exact .inl e0; exact .inr (by rw [e, show x = k by omega]))
        rw [show x + y = N by omega] at this
        exact this)
  have HN := Lib.hid hNs
  clear h h1 h2 hk hc1 hc2 hN hn hx hy
  go_enter Tryz.func26, Tryz.ntmps26
  go_wp2_with (go_at_call 39; fail)
  refine (HW.out _ HT.out).mono ?_
  clear HW HT hmf
  rintro e u ⟨rfl, hu⟩
  have HB := Lib.hid hu.but
  have HR := Lib.hid hu.row
  clear hu
  go_wp2_with (fail)
  go_end0
  exact ⟨rfl, HB.out, by rw [HN.out]; exact HR.out⟩
end Go.Proofs.Ed
