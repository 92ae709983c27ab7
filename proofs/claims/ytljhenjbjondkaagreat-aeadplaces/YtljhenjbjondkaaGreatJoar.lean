/-
  The document's own answer: AES's schedule.
-/
import Derived.Test.YtljhenjbjondkaaGreatJoap
import Derived.Test.YtljhenjbjondkaaGreatJoaq
import Derived.Test.YtljhenjbjondkaaGreatJoaa
import Derived.Laws.AppendOwn
import Derived.OwnWalk
import Derived.Deep.AppendLies
import Derived.Deep.RegionHeld3
namespace Go.Proofs.Aes
open Go.RowKit
open Go.Proofs.Im (ready_plain)
open Go.Proofs.Sha (wordCells wordCells_get wordCells_size rowIs_of wpList_alloc_to)
/-- n words as cells. -/
def cellsF (f : Nat → Nat) (n : Nat) : List Value := (List.range (4 * n)).map fun t => Value.int .u8 (f t : Nat)
theorem cellsF_length (f : Nat → Nat) (n : Nat) : (cellsF f n).length = n * 4 := by simp [cellsF]; omega
theorem cellsF_get (f : Nat → Nat) (n i : Nat) (h : i < 4 * n) : (cellsF f n)[i]? = some (.int .u8 (f i : Nat)) := by
  unfold cellsF; rw [List.getElem?_map, List.getElem?_range h]; rfl
theorem cellsF_succ (f g : Nat → Nat) (n a b c d : Nat) (hf : ∀ t, t < 4 * n → g t = f t) (h0 : g (4 * n) = a) (h1 : g (4 * n + 1) = b) (h2 : g (4 * n + 2) = c) (h3 : g (4 * n + 3) = d) :
    cellsF f n ++ [.int .u8 (a : Nat), .int .u8 (b : Nat), .int .u8 (c : Nat), .int .u8 (d : Nat)] = cellsF g (n + 1) := by
  apply List.ext_getElem?
  intro i
  by_cases h : i < 4 * n
  · rw [List.getElem?_append_left (by rw [cellsF_length]; omega), cellsF_get f n i h, cellsF_get g (n + 1) i (by omega), hf i h]
  · rw [List.getElem?_append_right (by rw [cellsF_length]; omega), cellsF_length]
    by_cases h' : i < 4 * (n + 1)
    · rw [cellsF_get g (n + 1) i h']
      obtain ⟨j, rfl⟩ : ∃ j, i = 4 * n + j := ⟨i - 4 * n, by omega⟩
      rw [show 4 * n + j - n * 4 = j by omega]
      have hj : j = 0 ∨ j = 1 ∨ j = 2 ∨ j = 3 := by omega
      rcases hj with rfl | rfl | rfl | rfl
      · rw [← h0]; rfl
      · rw [← h1]; rfl
      · rw [← h2]; rfl
      · rw [← h3]; rfl
    · rw [List.getElem?_eq_none (by simp; omega), List.getElem?_eq_none (by rw [cellsF_length]; omega)]
/-- The words so far, in a row of the call's own. -/
def Own (w wx : World) (A : Option Addr) (c n : Nat) (f : Nat → Nat) : Prop := wx.ownsRow w.heap.size 87 4 (.slice A n c) n (cellsF f n)
theorem own_form {w wx : World} {v : Value} {n : Nat} {f : Nat → Nat} (h : wx.ownsRow w.heap.size 87 4 v n (cellsF f n)) : ∃ A c, v = .slice A n c ∧ Own w wx A c n f := by
  rcases h.2 with ⟨hv, hn⟩ | ⟨g, cap, cur, hv, hr⟩
  · have e : v = .slice none n 0 := by rw [hn]; exact hv
    rw [e] at h; exact ⟨none, 0, e, h⟩
  · rw [hv] at h; exact ⟨_, _, hv, h⟩
theorem Own.at_ {w wx : World} {A : Option Addr} {c n : Nat} {f : Nat → Nat} (h : Own w wx A c n f) (hn : 0 < n) : ∃ g, A = some ⟨g, 0, none⟩ ∧ w.heap.size ≤ g ∧ g < wx.heap.size := by
  rcases h.2 with ⟨_, h0⟩ | ⟨g, cap, cur, hv, hb, hg, _⟩
  · omega
  · injection hv with hA _ _
    exact ⟨g, hA, hb, (Array.getElem?_eq_some_iff.1 hg).1⟩
theorem Own.cell {w wx : World} {g c n : Nat} {f : Nat → Nat} (h : Own w wx (some ⟨g, 0, none⟩) c n f) (i : Nat) (hi : i < 4 * n) : wx.cell? ⟨g, i, none⟩ = some (.int .u8 (f i : Nat)) := by
  rw [World.ownsRow.cellAt h i (by omega), cellsF_get f n i hi]
theorem Own.on {w u v : World} {A : Option Addr} {c n : Nat} {f : Nat → Nat} (h : Own w u A c n f) (hb : Below u.heap.size u v) : Own w v A c n f := by
  unfold Own at h ⊢
  refine h.kept (row := none) ⟨hb.os, hb.tape, hb.output, hb.size, fun k hk _ => hb.block k hk⟩ ?_
  cases hv : (Value.slice A n c).ownBlock <;> simp
theorem Own.alloc {w u : World} {A : Option Addr} {c n : Nat} {f : Nat → Nat} (h : Own w u A c n f) (o : Obj) : Own w (u.alloc o) A c n f := h.on ((Below.refl _ u).alloc (Nat.le_refl _) o)
theorem Own.drew {w u : World} {A : Option Addr} {c n : Nat} {f : Nat → Nat} (h : Own w u A c n f) : Own w u.drew A c n f := h
theorem Own.far {w u : World} {g c n : Nat} {f : Nat → Nat} (h : Own w u (some ⟨g, 0, none⟩) c n f) {p : Addr} (hp : g ≠ p.block) (x : Value) : Own w (u.setCell p x) (some ⟨g, 0, none⟩) c n f := by
  unfold Own at h ⊢
  refine ⟨h.1, ?_⟩
  rcases h.2 with hh | ⟨g', cap, cur, hv, hb, hg, hr⟩
  · exact Or.inl hh
  · injection hv with hA hn hc
    injection hA with hA
    injection hA with hA
    subst hA
    subst hc
    exact Or.inr ⟨g, c, cur, rfl, hb, (Below.heap_setCell u p x g hp).trans hg, hr⟩
/-- Four bytes in a block of their own. -/
def R4 (w : World) (g : Nat) (x : Nat → Nat) : Prop := w.rowIs g 87 4 (fun i => .int .u8 (x i : Nat))
theorem R4.set {w : World} {g : Nat} {x : Nat → Nat} (h : R4 w g x) (j v : Nat) : R4 (w.setCell ⟨g, j, none⟩ (.int .u8 v)) g (fun i => if i = j then v else x i) :=
  World.rowIs.congr (World.rowIs.set h j (.int .u8 v)) fun i _ => by simp only []; split <;> rfl
theorem R4.congr {w : World} {g : Nat} {x y : Nat → Nat} (h : R4 w g x) (e : ∀ i, i < 4 → x i = y i) : R4 w g y := World.rowIs.congr h fun i hi => by rw [e i hi]
theorem R4.drew {w : World} {g : Nat} {x : Nat → Nat} (h : R4 w g x) : R4 w.drew g x := World.rowIs.drew h
theorem r4_new (w : World) (a b c d : Nat) : R4 (w.alloc (.cells #[.int .u8 (a : Nat), .int .u8 (b : Nat), .int .u8 (c : Nat), .int .u8 (d : Nat)] 87)) w.heap.size (fun i => if i = 0 then a else if i = 1 then b else if i = 2 then c else d) :=
  rowIs_of w _ 87 4 _ rfl fun i hi => by
    match i, hi with
    | 0, _ => rfl
    | 1, _ => rfl
    | 2, _ => rfl
    | 3, _ => rfl
theorem lt4 {P : Nat → Prop} (h0 : P 0) (h1 : P 1) (h2 : P 2) (h3 : P 3) (i : Nat) (hi : i < 4) : P i := by
  match i, hi with
  | 0, _ => exact h0
  | 1, _ => exact h1
  | 2, _ => exact h2
  | 3, _ => exact h3
theorem four_cells (W : World) (a b c d : Value) : ∀ j u, [a, b, c, d][j]? = some u → (W.alloc (.cells #[a, b, c, d] 87)).cell? ((⟨W.heap.size, 0, none⟩ : Addr).add j) = some u := by
  intro j u hu
  have hadd : (⟨W.heap.size, 0, none⟩ : Addr).add j = ⟨W.heap.size, j, none⟩ := by unfold Addr.add; split <;> simp_all
  rw [hadd, World.cell?_alloc_at _ _ _ _ rfl]
  match j, hu with
  | 0, hu => exact hu
  | 1, hu => exact hu
  | 2, hu => exact hu
  | 3, hu => exact hu
theorem four_one {x y z t : Int} : ∀ u ∈ [Value.int .u8 x, .int .u8 y, .int .u8 z, .int .u8 t], u.oneCell' = true := by
  intro u hu
  simp at hu
  rcases hu with rfl | rfl | rfl | rfl <;> rfl
section
variable {P : Program} {md : Region.Mode} {ops : Array Oper} {Q : Exit → Act → World → Prop} {fuel i : Nat} {listed : Array Bool} {a : Act} {w : World} {o : Oper} {rs : List Nat}
theorem ready_val (ho : ops[i]? = some o) (hg : o.guard = none) (v : Value) (w' : World) (hr : (execOp a.eval o).run P w = .ok (.value v) w')
    (h : wpAny P md ops Q fuel (listed.setIfInBounds i true) (a.put o.dst v) w')
    (hs : AllReady P md ops Q fuel listed a w rs) : AllReady P md ops Q fuel listed a w (i :: rs) :=
  ready_plain ho hg (fun _ hK => by unfold Oper.wp; rw [hr]; exact hK _ _ h) hs
end
theorem meas (K j : Nat) (h : j < K) : K - (intOf (.int .i64 ((j : Int) + 1))).toNat < K - (intOf (.int .i64 (j : Int))).toNat := by
  show K - ((j : Int) + 1).toNat < K - (j : Int).toNat
  omega
theorem box_get (k : Nat) (hk : k < 256) : ∀ h : k < boxS.size, (boxS[k]'h).toNat = bx k := fun h => by rw [get_byt, box_byt k hk]
def Sched (w : World) (N : Nat) (f : Nat → Nat) (e : Ending) (w' : World) : Prop := ∃ g cap, e = .returned (.slice (some ⟨g, 0, none⟩) N cap) ∧ w.heap.size ≤ g ∧ g < w'.heap.size ∧ Below w.heap.size w w' ∧ Keys w' g N f
set_option maxHeartbeats 4000000 in
set_option maxRecDepth 10000 in
theorem sched_16 (key : ByteArray) (w : World) (hs : key.size = 16) :
    Calls Tryz.prog 36 #[.string key] w (Sched w 44 (exS 4 key 40)) := by
  obtain ⟨i0, hi0, hz0, hz1, hz2⟩ := info_parts (P := Tryz.prog) (e := 87) (z := .agg #[.int .u8 0, .int .u8 0, .int .u8 0, .int .u8 0]) (size := 4) (bytes := 4) (by kernel_rfl)
  have HJ0 := Lib.hid hi0
  have HJ1 := Lib.hid hz0
  have HJ2 := Lib.hid hz1
  have HJ3 := Lib.hid hz2
  clear hi0 hz0 hz1 hz2
  have q0 : (key.size : Int) / 4 = 4 := by omega
  have HSz := Lib.hid hs
  go_enter Tryz.func36, Tryz.ntmps36
  go_wp2_with (fail)
  go_loopw [4, 5] (fun v i wx => ∃ (j : Nat) (A : Option Addr) (c : Nat), Hid (j ≤ 4) ∧ i = .int .i64 j ∧ v = .slice A j c ∧ Hid (Own w wx A c j (byt key)) ∧ Hid (Below w.heap.size w wx)) (fun _ i _ => 4 - (intOf i).toNat)
  case atStart => exact ⟨0, none, 0, Nat.zero_le 4, rfl, rfl, World.ownsRow_nil _ _ _ _, Below.refl _ _⟩
  case round =>
    obtain ⟨j, A, c, hj, rfl, rfl, HO, HB⟩ := hrel
    by_cases hlt : j < 4
    · have jl : ((j : Int) < 4) = True := eq_true (by omega)
      have HJ := Lib.hid hlt
      have x0 : IntKind.i64.wrap (4 * (j : Int)) = 4 * (j : Int) := IntWalk.i64_in _ (by omega)
      have x1 : IntKind.i64.wrap (4 * (j : Int) + 1) = 4 * (j : Int) + 1 := IntWalk.i64_in _ (by omega)
      have x2 : IntKind.i64.wrap (4 * (j : Int) + 2) = 4 * (j : Int) + 2 := IntWalk.i64_in _ (by omega)
      have x3 : IntKind.i64.wrap (4 * (j : Int) + 3) = 4 * (j : Int) + 3 := IntWalk.i64_in _ (by omega)
      have p0 : (0 : Int) ≤ 4 * (j : Int) := by omega
      have p1 : (0 : Int) ≤ 4 * (j : Int) + 1 := by omega
      have p2 : (0 : Int) ≤ 4 * (j : Int) + 2 := by omega
      have p3 : (0 : Int) ≤ 4 * (j : Int) + 3 := by omega
      have l0 : 4 * (j : Int) < 16 := by omega
      have l1 : 4 * (j : Int) + 1 < 16 := by omega
      have l2 : 4 * (j : Int) + 2 < 16 := by omega
      have l3 : 4 * (j : Int) + 3 < 16 := by omega
      have t0 : (4 * (j : Int)).toNat = 4 * j := by omega
      have t1 : (4 * (j : Int) + 1).toNat = 4 * j + 1 := by omega
      have t2 : (4 * (j : Int) + 2).toNat = 4 * j + 2 := by omega
      have t3 : (4 * (j : Int) + 3).toNat = 4 * j + 3 := by omega
      clear hlt
      go_wp2_with (fail)
      refine wp_region_any (by kernel_rfl) ?_
      change wpAny _ _ _ _ _ _ _ wr.drew
      refine wpAny_take (i := 0) (v := .slice A j c) rfl (by kernel_rfl) (by kernel_rfl) (by kernel_rfl) (fun _ _ _ h => h) (Or.inl ⟨by rfl, fun w => by go_simp⟩) ?_
      simp only [Act.put, List.setIfInBounds_toArray]
      refine wpAny_take (i := 1) (v := .string key) rfl (by kernel_rfl) (by kernel_rfl) (by kernel_rfl) (fun _ _ _ h => h) (Or.inl ⟨by rfl, fun w => by go_simp⟩) ?_
      simp only [Act.put]
      refine wpAny_take (i := 2) (v := .int .i64 (j : Int)) rfl (by kernel_rfl) (by kernel_rfl) (by kernel_rfl) (fun _ _ _ h => h) (Or.inl ⟨by rfl, fun w => by go_simp⟩) ?_
      simp only [Act.put]
      refine wpAny_take (i := 3) (v := .int .i64 (4 * (j : Int))) rfl (by kernel_rfl) (by kernel_rfl) (by kernel_rfl) (fun _ _ _ h => h) (Or.inl ⟨by rfl, fun w => by go_simp⟩) ?_
      simp only [Act.put]
      refine wpAny_take (i := 4) (v := .int .u8 (byt key (4 * j) : Nat)) rfl (by kernel_rfl) (by kernel_rfl) (by kernel_rfl) (fun _ _ _ h => h) (Or.inl ⟨by rfl, fun w => by go_simp; simp only [get_byt]⟩) ?_
      simp only [Act.put]
      refine wpAny_take (i := 5) (v := .string key) rfl (by kernel_rfl) (by kernel_rfl) (by kernel_rfl) (fun _ _ _ h => h) (Or.inl ⟨by rfl, fun w => by go_simp⟩) ?_
      simp only [Act.put]
      refine wpAny_take (i := 6) (v := .int .i64 (j : Int)) rfl (by kernel_rfl) (by kernel_rfl) (by kernel_rfl) (fun _ _ _ h => h) (Or.inl ⟨by rfl, fun w => by go_simp⟩) ?_
      simp only [Act.put]
      refine wpAny_take (i := 7) (v := .int .i64 (4 * (j : Int))) rfl (by kernel_rfl) (by kernel_rfl) (by kernel_rfl) (fun _ _ _ h => h) (Or.inl ⟨by rfl, fun w => by go_simp⟩) ?_
      simp only [Act.put]
      refine wpAny_take (i := 8) (v := .int .i64 (4 * (j : Int) + 1)) rfl (by kernel_rfl) (by kernel_rfl) (by kernel_rfl) (fun _ _ _ h => h) (Or.inl ⟨by rfl, fun w => by go_simp⟩) ?_
      simp only [Act.put]
      refine wpAny_take (i := 9) (v := .int .u8 (byt key (4 * j + 1) : Nat)) rfl (by kernel_rfl) (by kernel_rfl) (by kernel_rfl) (fun _ _ _ h => h) (Or.inl ⟨by rfl, fun w => by go_simp; simp only [get_byt]⟩) ?_
      simp only [Act.put]
      refine wpAny_take (i := 10) (v := .string key) rfl (by kernel_rfl) (by kernel_rfl) (by kernel_rfl) (fun _ _ _ h => h) (Or.inl ⟨by rfl, fun w => by go_simp⟩) ?_
      simp only [Act.put]
      refine wpAny_take (i := 11) (v := .int .i64 (j : Int)) rfl (by kernel_rfl) (by kernel_rfl) (by kernel_rfl) (fun _ _ _ h => h) (Or.inl ⟨by rfl, fun w => by go_simp⟩) ?_
      simp only [Act.put]
      refine wpAny_take (i := 12) (v := .int .i64 (4 * (j : Int))) rfl (by kernel_rfl) (by kernel_rfl) (by kernel_rfl) (fun _ _ _ h => h) (Or.inl ⟨by rfl, fun w => by go_simp⟩) ?_
      simp only [Act.put]
      refine wpAny_take (i := 13) (v := .int .i64 (4 * (j : Int) + 2)) rfl (by kernel_rfl) (by kernel_rfl) (by kernel_rfl) (fun _ _ _ h => h) (Or.inl ⟨by rfl, fun w => by go_simp⟩) ?_
      simp only [Act.put]
      refine wpAny_take (i := 14) (v := .int .u8 (byt key (4 * j + 2) : Nat)) rfl (by kernel_rfl) (by kernel_rfl) (by kernel_rfl) (fun _ _ _ h => h) (Or.inl ⟨by rfl, fun w => by go_simp; simp only [get_byt]⟩) ?_
      simp only [Act.put]
      refine wpAny_take (i := 15) (v := .string key) rfl (by kernel_rfl) (by kernel_rfl) (by kernel_rfl) (fun _ _ _ h => h) (Or.inl ⟨by rfl, fun w => by go_simp⟩) ?_
      simp only [Act.put]
      refine wpAny_take (i := 16) (v := .int .i64 (j : Int)) rfl (by kernel_rfl) (by kernel_rfl) (by kernel_rfl) (fun _ _ _ h => h) (Or.inl ⟨by rfl, fun w => by go_simp⟩) ?_
      simp only [Act.put]
      refine wpAny_take (i := 17) (v := .int .i64 (4 * (j : Int))) rfl (by kernel_rfl) (by kernel_rfl) (by kernel_rfl) (fun _ _ _ h => h) (Or.inl ⟨by rfl, fun w => by go_simp⟩) ?_
      simp only [Act.put]
      refine wpAny_take (i := 18) (v := .int .i64 (4 * (j : Int) + 3)) rfl (by kernel_rfl) (by kernel_rfl) (by kernel_rfl) (fun _ _ _ h => h) (Or.inl ⟨by rfl, fun w => by go_simp⟩) ?_
      simp only [Act.put]
      refine wpAny_take (i := 19) (v := .int .u8 (byt key (4 * j + 3) : Nat)) rfl (by kernel_rfl) (by kernel_rfl) (by kernel_rfl) (fun _ _ _ h => h) (Or.inl ⟨by rfl, fun w => by go_simp; simp only [get_byt]⟩) ?_
      simp only [Act.put]
      refine wpAny_take (i := 20) (v := .agg #[.int .u8 (byt key (4 * j) : Nat), .int .u8 (byt key (4 * j + 1) : Nat), .int .u8 (byt key (4 * j + 2) : Nat), .int .u8 (byt key (4 * j + 3) : Nat)]) rfl (by kernel_rfl) (by kernel_rfl) (by kernel_rfl) (fun _ _ _ h => h) (Or.inl ⟨by rfl, fun w => by go_simp⟩) ?_
      simp only [Act.put]
      refine wpAny_ready (rs := [21]) (by kernel_rfl) (by simp) ?_
      refine ready_val rfl rfl (.slice (some ⟨wr.heap.size, 0, none⟩) 1 1) (wr.drew.alloc (.cells #[.int .u8 (byt key (4 * j) : Nat), .int .u8 (byt key (4 * j + 1) : Nat), .int .u8 (byt key (4 * j + 2) : Nat), .int .u8 (byt key (4 * j + 3) : Nat)] 87)) (by go_simp) ?_ AllReady.nil
      simp only [Act.put]
      refine wpAny_ready (rs := [22]) (by kernel_rfl) (by simp) ?_
      refine ready_plain rfl rfl (fun K hK => wp_append_lies _ _ _ 63 rfl w.heap.size 87 i0 _ 4 4 Tryz.underlying63 HJ0.out HJ1.out HJ2.out HJ3.out rfl (by decide) (.slice A j c) j (cellsF (byt key) j) (by kernel_rfl) (World.ownsRow.alloc HO.out.drew _) ⟨wr.heap.size, 0, none⟩ 1 1 _ (by kernel_rfl) rfl (four_cells wr.drew _ _ _ _) four_one (by decide) (by unfold maxLen; have := HJ.out; omega) (by have := HJ.out; omega) (by have := HB.out.size; simp; omega) (wr.heap.size + 1) (by simp) ?_) AllReady.nil
      intro g cap w1 hown hgrow _ hlt
      refine hK _ _ ?_
      rw [cellsF_succ (byt key) (byt key) j _ _ _ _ (fun _ _ => rfl) rfl rfl rfl rfl] at hown
      have HO1 : Hid (Own w w1 (some ⟨g, 0, none⟩) cap (j + 1) (byt key)) := hown
      have HB1 : Hid (Below w.heap.size w w1) := (HB.out.drew.alloc HB.out.size _).grown hgrow (by have := HB.out.size; simp; omega) (fun k hk => (World.ownsRow.lt HO.out k hk).1)
      clear hown hgrow hlt x0 x1 x2 x3 p0 p1 p2 p3 l0 l1 l2 l3 t0 t1 t2 t3
      simp only [Act.put]
      refine wpAny_take (i := 23) (v := .slice (some ⟨g, 0, none⟩) (j + 1) cap) rfl (by kernel_rfl) (by kernel_rfl) (by kernel_rfl) (fun _ _ _ h => h) (Or.inl ⟨by rfl, fun w => by go_simp⟩) ?_
      simp only [Act.put]
      refine wpAny_done (by kernel_rfl) ?_ _
      have wj : wrap64 ((j : Int) + 1) = (j : Int) + 1 := IntWalk.wrap64_in _ (by have := HJ.out; omega)
      go_wp2_with (fail)
      simp only [wj]
      exact ⟨⟨j + 1, _, _, HJ.out, by go_num, rfl, HO1, HB1⟩, meas 4 j HJ.out⟩
    · obtain rfl : j = 4 := by have := hj.out; omega
      have jl : ((4 : Int) < 4) = False := eq_false (by omega)
      obtain ⟨g, rfl, hg, hgx⟩ := HO.out.at_ (by decide)
      clear hlt hj hg hgx
      go_wp2_with (fail)
      clear jl
      rw [show ((4 : Nat) : Int) = 4 from rfl]
      go_loopw [4, 6, 7] (fun v r i wx => ∃ (I g c : Nat), Hid (4 ≤ I ∧ I ≤ 44) ∧ i = .int .i64 I ∧ r = .int .u8 (rc ((I + 4 - 1) / 4 - 1) : Nat) ∧ v = .slice (some ⟨g, 0, none⟩) I c ∧ Hid (Own w wx (some ⟨g, 0, none⟩) c I (exS 4 key (I - 4))) ∧ Hid (Below w.heap.size w wx)) (fun _ _ i _ => 44 - (intOf i).toNat)
      case atStart => exact ⟨4, g, c, ⟨by decide, by decide⟩, rfl, rfl, rfl, HO, HB⟩
      case round =>
        clear HO HB
        obtain ⟨I, g, c, hI, rfl, rfl, rfl, HO, HB⟩ := hrel
        have HFl : Hid (∀ t, exS 4 key (I - 4) t < 256) := exS_lt 4 key (I - 4)
        have HFs : Hid (exS 4 key (I + 1 - 4) = fun t => if t / 4 = I then stepW 4 I (exS 4 key (I - 4)) (t % 4) else exS 4 key (I - 4) t) := by
          have e : I + 1 - 4 = (I - 4) + 1 := by have := hI.out; omega
          show exS 4 key (I + 1 - 4) = _
          rw [e]
          show (fun t => if t / 4 = 4 + (I - 4) then stepW 4 (4 + (I - 4)) (exS 4 key (I - 4)) (t % 4) else exS 4 key (I - 4) t) = _
          rw [show 4 + (I - 4) = I by have := hI.out; omega]
        generalize hEf : exS 4 key (I - 4) = f at HO HFl HFs
        have HEf := Lib.hid hEf
        clear hEf
        generalize hRq : rc ((I + 4 - 1) / 4 - 1) = R
        have HRq := Lib.hid hRq
        have HRl : Hid (R < 256) := by show R < 256; rw [← hRq]; exact rc_lt _
        clear hRq
        obtain ⟨hI1, hI2⟩ := hI.out
        by_cases hlt : I < 44
        · have il : ((I : Int) < 44) = True := eq_true (by omega)
          have HL := Lib.hid hlt
          have m0 := HO.out.cell ((I - 1) * 4) (by omega)
          have m1 := HO.out.cell ((I - 1) * 4 + 1) (by omega)
          have m2 := HO.out.cell ((I - 1) * 4 + 2) (by omega)
          have m3 := HO.out.cell ((I - 1) * 4 + 3) (by omega)
          have y0 : ((I : Int) - 1).toNat = I - 1 := by omega
          have p0 : (0 : Int) ≤ (I : Int) - 1 := by omega
          have p1 : (I : Int) - 1 < (I : Int) := by omega
          go_upto_region 12 with (fail)
          have HT0 : Hid (R4 (wr.alloc (.cells #[.int .u8 (f ((I - 1) * 4) : Nat), .int .u8 (f ((I - 1) * 4 + 1) : Nat), .int .u8 (f ((I - 1) * 4 + 2) : Nat), .int .u8 (f ((I - 1) * 4 + 3) : Nat)] 87)) wr.heap.size (fun i => f ((I - 1) * 4 + i))) :=
            (r4_new wr _ _ _ _).congr (lt4 rfl rfl rfl rfl)
          have HO2 : Hid (Own w (wr.alloc (.cells #[.int .u8 (f ((I - 1) * 4) : Nat), .int .u8 (f ((I - 1) * 4 + 1) : Nat), .int .u8 (f ((I - 1) * 4 + 2) : Nat), .int .u8 (f ((I - 1) * 4 + 3) : Nat)] 87)) (some ⟨g, 0, none⟩) c I f) := HO.out.alloc _
          have HB2 : Hid (Below w.heap.size w (wr.alloc (.cells #[.int .u8 (f ((I - 1) * 4) : Nat), .int .u8 (f ((I - 1) * 4 + 1) : Nat), .int .u8 (f ((I - 1) * 4 + 2) : Nat), .int .u8 (f ((I - 1) * 4 + 3) : Nat)] 87))) := HB.out.alloc HB.out.size _
          have HG : Hid (g ≠ wr.heap.size) := by
            obtain ⟨g', hg', _, hlt'⟩ := HO.out.at_ (by omega)
            injection hg' with hg'; injection hg' with hg'
            show g ≠ wr.heap.size
            omega
          have HGw : Hid (w.heap.size ≤ wr.heap.size) := HB.out.size
          clear m0 m1 m2 m3 y0 p0 p1 HO HB
          generalize wr.alloc (.cells #[.int .u8 (f ((I - 1) * 4) : Nat), .int .u8 (f ((I - 1) * 4 + 1) : Nat), .int .u8 (f ((I - 1) * 4 + 2) : Nat), .int .u8 (f ((I - 1) * 4 + 3) : Nat)] 87) = w2 at HT0 HO2 HB2 ⊢
          generalize wr.heap.size = gt at HT0 HG HGw ⊢
          have c0 : w2.cell? ⟨gt, 0, none⟩ = some (.int .u8 (f ((I - 1) * 4 + 0) : Nat)) := World.rowIs.cell HT0.out (i := 0) (by decide)
          have c1 : w2.cell? ⟨gt, 1, none⟩ = some (.int .u8 (f ((I - 1) * 4 + 1) : Nat)) := World.rowIs.cell HT0.out (i := 1) (by decide)
          have c2 : w2.cell? ⟨gt, 2, none⟩ = some (.int .u8 (f ((I - 1) * 4 + 2) : Nat)) := World.rowIs.cell HT0.out (i := 2) (by decide)
          have c3 : w2.cell? ⟨gt, 3, none⟩ = some (.int .u8 (f ((I - 1) * 4 + 3) : Nat)) := World.rowIs.cell HT0.out (i := 3) (by decide)
          have f0 := World.rowIs.frozen HT0.out 0
          have f1 := World.rowIs.frozen HT0.out 1
          have f2 := World.rowIs.frozen HT0.out 2
          have f3 := World.rowIs.frozen HT0.out 3
          have b0 := HFl.out ((I - 1) * 4 + 0)
          generalize hx0 : f ((I - 1) * 4 + 0) = x0 at c0 b0
          have HX0 := Lib.hid hx0
          clear hx0
          have ix0 : (x0 : Int) < 256 := by omega
          have v0 := box_get x0 b0
          have b1 := HFl.out ((I - 1) * 4 + 1)
          generalize hx1 : f ((I - 1) * 4 + 1) = x1 at c1 b1
          have HX1 := Lib.hid hx1
          clear hx1
          have ix1 : (x1 : Int) < 256 := by omega
          have v1 := box_get x1 b1
          have b2 := HFl.out ((I - 1) * 4 + 2)
          generalize hx2 : f ((I - 1) * 4 + 2) = x2 at c2 b2
          have HX2 := Lib.hid hx2
          clear hx2
          have ix2 : (x2 : Int) < 256 := by omega
          have v2 := box_get x2 b2
          have b3 := HFl.out ((I - 1) * 4 + 3)
          generalize hx3 : f ((I - 1) * 4 + 3) = x3 at c3 b3
          have HX3 := Lib.hid hx3
          clear hx3
          have ix3 : (x3 : Int) < 256 := by omega
          have v3 := box_get x3 b3
          unfold boxS at v0 v1 v2 v3
          by_cases hA : I % 4 = 0
          · have HV : Hid (tmpW 4 I f 0 = bx x1 ^^^ R ∧ tmpW 4 I f 1 = bx x2 ∧ tmpW 4 I f 2 = bx x3 ∧ tmpW 4 I f 3 = bx x0) := by
              have h (j : Nat) : tmpW 4 I f j = if j = 0 then bx (f (4 * (I - 1) + 1)) ^^^ rc ((I + 4 - 1) / 4 - 1) else bx (f (4 * (I - 1) + (j + 1) % 4)) := by unfold tmpW; rw [if_pos hA]
              have o (k : Nat) : 4 * (I - 1) + k = (I - 1) * 4 + k := by omega
              refine ⟨?_, ?_, ?_, ?_⟩
              · rw [h, if_pos rfl, o, HX1.out, HRq.out]
              · rw [h, if_neg (by decide), show (1 + 1) % 4 = 2 from rfl, o, HX2.out]
              · rw [h, if_neg (by decide), show (2 + 1) % 4 = 3 from rfl, o, HX3.out]
              · rw [h, if_neg (by decide), show (3 + 1) % 4 = 0 from rfl, o, HX0.out]
            have HR2 : Hid (dbl R = rc ((I + 1 + 4 - 1) / 4 - 1)) := by
              show dbl R = _
              rw [show (I + 1 + 4 - 1) / 4 - 1 = ((I + 4 - 1) / 4 - 1) + 1 by omega]
              show dbl R = dbl (rc ((I + 4 - 1) / 4 - 1))
              rw [HRq.out]
            have e1 : ((I : Int) % 4 == 0) = true := by simp; omega
            have e2 : (((I : Int).tmod 4) == 0) = true := by rw [Int.tmod_eq_emod_of_nonneg (by omega)]; exact e1
            go_wp2_with (fail)
            refine wp_region_still_tail 15 (by kernel_rfl) (by kernel_rfl) ?_
            simp only [List.take_succ_cons, List.take_zero, List.drop_succ_cons, List.drop_zero]
            repeat still_step
            try refine wpStill_nil ?_
            change wpList _ _ _ _ _ w2.drew
            clear v0 v1 v2 v3 ix0 ix1 ix2 ix3
            go_wp2_with (go_at_call 61; refine (double_any R _ HRl.out).mono ?_; rintro e u ⟨rfl, rfl⟩)
            rw [u8_xor _ _ (bx_lt _ b1) HRl.out]
            have HT1 : Hid (R4 ((((w2.setCell ⟨gt, 0, none⟩ (.int .u8 (bx x1 ^^^ R : Nat))).setCell ⟨gt, 1, none⟩ (.int .u8 (bx x2 : Nat))).setCell ⟨gt, 2, none⟩ (.int .u8 (bx x3 : Nat))).setCell ⟨gt, 3, none⟩ (.int .u8 (bx x0 : Nat))).drew gt (tmpW 4 I f)) := R4.congr ((((HT0.out.set 0 _).set 1 _).set 2 _).set 3 _).drew (lt4 HV.out.1.symm HV.out.2.1.symm HV.out.2.2.1.symm HV.out.2.2.2.symm)
            have HO3 : Hid (Own w ((((w2.setCell ⟨gt, 0, none⟩ (.int .u8 (bx x1 ^^^ R : Nat))).setCell ⟨gt, 1, none⟩ (.int .u8 (bx x2 : Nat))).setCell ⟨gt, 2, none⟩ (.int .u8 (bx x3 : Nat))).setCell ⟨gt, 3, none⟩ (.int .u8 (bx x0 : Nat))).drew (some ⟨g, 0, none⟩) c I f) := ((((HO2.out.far HG.out _).far HG.out _).far HG.out _).far HG.out _).drew
            have HB3 : Hid (Below w.heap.size w ((((w2.setCell ⟨gt, 0, none⟩ (.int .u8 (bx x1 ^^^ R : Nat))).setCell ⟨gt, 1, none⟩ (.int .u8 (bx x2 : Nat))).setCell ⟨gt, 2, none⟩ (.int .u8 (bx x3 : Nat))).setCell ⟨gt, 3, none⟩ (.int .u8 (bx x0 : Nat))).drew) := ((((HB2.out.setCell HGw.out _).setCell HGw.out _).setCell HGw.out _).setCell HGw.out _).drew
            clear HT0 HO2 HB2 c0 c1 c2 c3 f0 f1 f2 f3
            generalize ((((w2.setCell ⟨gt, 0, none⟩ (.int .u8 (bx x1 ^^^ R : Nat))).setCell ⟨gt, 1, none⟩ (.int .u8 (bx x2 : Nat))).setCell ⟨gt, 2, none⟩ (.int .u8 (bx x3 : Nat))).setCell ⟨gt, 3, none⟩ (.int .u8 (bx x0 : Nat))).drew = w3 at HT1 HO3 HB3 ⊢
            clear hA e1 e2
            go_loopw [9] (fun i wx => ∃ (j : Nat) (T : Nat → Nat), Hid (j ≤ 4) ∧ i = .int .i64 j ∧ Hid (∀ t, T t = if t < j then stepW 4 I f t else tmpW 4 I f t) ∧ Hid (R4 wx gt T) ∧ Hid (Own w wx (some ⟨g, 0, none⟩) c I f) ∧ Hid (Below w.heap.size w wx)) (fun i _ => 4 - (intOf i).toNat)
            case atStart => exact ⟨0, tmpW 4 I f, Nat.zero_le 4, rfl, fun t => by rw [if_neg (Nat.not_lt_zero t)], HT1, HO3, HB3⟩
            case round =>
              clear HT1 HO3 HB3
              obtain ⟨j, T, hj, rfl, hT, HT1, HO3, HB3⟩ := hrel
              by_cases hlt : j < 4
              · have jl : ((j : Int) < 4) = True := eq_true (by omega)
                have HJ := Lib.hid hlt
                have HTj : Hid (T j = tmpW 4 I f j) := by have := hT.out j; rwa [if_neg (Nat.lt_irrefl j)] at this
                have HTl : Hid (T j < 256) := by show T j < 256; rw [HTj.out]; exact tmpW_lt HFl.out j
                have tc := World.rowIs.cell HT1.out (i := j) hlt
                have tf := World.rowIs.frozen HT1.out j
                have oc := HO3.out.cell ((I - 4) * 4 + j) (by omega)
                have z0 : ((I : Int) - 4).toNat = I - 4 := by omega
                have z1 : IntKind.i64.wrap ((I : Int) - 4) = (I : Int) - 4 := IntWalk.i64_in _ (by omega)
                have z2 : (0 : Int) ≤ (I : Int) - 4 := by omega
                have z4 : (4 : Int) ≤ (I : Int) := by omega
                have z3 : (I : Int) - 4 < (I : Int) := by omega
                have wj : wrap64 ((j : Int) + 1) = (j : Int) + 1 := IntWalk.wrap64_in _ (by omega)
                clear hlt
                go_wp2_with (fail)
                refine wp_region_still_tail 14 (by kernel_rfl) (by kernel_rfl) ?_
                simp only [List.take_succ_cons, List.take_zero, List.drop_succ_cons, List.drop_zero]
                repeat still_step
                try refine wpStill_nil ?_
                change wpList _ _ _ _ _ wr.drew
                clear z0 z1 z2 z3 z4
                go_wp2_with (fail)
                simp only [wj]
                rw [u8_xor _ _ HTl.out (HFl.out _)]
                refine ⟨⟨j + 1, fun i => if i = j then T j ^^^ f ((I - 4) * 4 + j) else T i, HJ.out, by go_num, fun t => ?_, (HT1.out.set j _).drew, (HO3.out.far HG.out _).drew, (HB3.out.setCell HGw.out _).drew⟩, meas 4 j HJ.out⟩
                show (if t = j then _ else T t) = _
                by_cases h : t = j
                · subst h
                  rw [if_pos rfl, if_pos (Nat.lt_succ_self _), HTj.out, Nat.mul_comm]; rfl
                · rw [if_neg h, hT.out t]
                  by_cases h2 : t < j
                  · rw [if_pos h2, if_pos (by omega)]
                  · rw [if_neg h2, if_neg (by omega)]
              · have jl : ((j : Int) < 4) = False := eq_false (by omega)
                have HT4 : Hid (R4 wr gt (stepW 4 I f)) := HT1.out.congr fun t ht => by rw [hT.out t, if_pos (by have := hj.out; omega)]
                have c0 : wr.cell? ⟨gt, 0, none⟩ = some (.int .u8 (stepW 4 I f 0 : Nat)) := World.rowIs.cell HT4.out (i := 0) (by decide)
                have c1 : wr.cell? ⟨gt, 1, none⟩ = some (.int .u8 (stepW 4 I f 1 : Nat)) := World.rowIs.cell HT4.out (i := 1) (by decide)
                have c2 : wr.cell? ⟨gt, 2, none⟩ = some (.int .u8 (stepW 4 I f 2 : Nat)) := World.rowIs.cell HT4.out (i := 2) (by decide)
                have c3 : wr.cell? ⟨gt, 3, none⟩ = some (.int .u8 (stepW 4 I f 3 : Nat)) := World.rowIs.cell HT4.out (i := 3) (by decide)
                clear hlt hT HT1
                go_wp2_with (at_builtin; refine wpList_append_lies _ rfl _ _ 63 rfl w.heap.size 87 i0 _ 4 4 Tryz.underlying63 HJ0.out HJ1.out HJ2.out HJ3.out rfl (by decide) (.slice (some ⟨g, 0, none⟩) I c) I (cellsF f I) rfl (World.ownsRow.alloc HO3.out _) ⟨wr.heap.size, 0, none⟩ 1 1 _ rfl rfl (four_cells wr _ _ _ _) four_one (by decide) (by unfold maxLen; omega) (by omega) (by have := HB3.out.size; simp; omega) (wr.heap.size + 1) (by simp) ?_)
                intro g2 cap w4 hown hgrow _ hlt
                rw [cellsF_succ f (exS 4 key (I + 1 - 4)) I _ _ _ _ (fun t ht => by rw [HFs.out]; exact if_neg (by omega)) (by rw [HFs.out]; exact (if_pos (by omega)).trans (by rw [show 4 * I % 4 = 0 by omega])) (by rw [HFs.out]; exact (if_pos (by omega)).trans (by rw [show (4 * I + 1) % 4 = 1 by omega])) (by rw [HFs.out]; exact (if_pos (by omega)).trans (by rw [show (4 * I + 2) % 4 = 2 by omega])) (by rw [HFs.out]; exact (if_pos (by omega)).trans (by rw [show (4 * I + 3) % 4 = 3 by omega]))] at hown
                have HO4 : Hid (Own w w4 (some ⟨g2, 0, none⟩) cap (I + 1) (exS 4 key (I + 1 - 4))) := hown
                have HB4 : Hid (Below w.heap.size w w4) := (HB3.out.alloc HB3.out.size _).grown hgrow (by have := HB3.out.size; simp; omega) (fun k hk => (World.ownsRow.lt HO3.out k hk).1)
                clear hown hgrow hlt c0 c1 c2 c3
                go_wp2_with (fail)
                exact ⟨⟨I + 1, g2, cap, ⟨by omega, HL.out⟩, by go_num, by rw [HR2.out], rfl, HO4, HB4⟩, meas 44 I HL.out⟩
          · have HR2 : Hid (R = rc ((I + 1 + 4 - 1) / 4 - 1)) := by
              show R = _
              rw [show (I + 1 + 4 - 1) / 4 - 1 = (I + 4 - 1) / 4 - 1 by omega, HRq.out]
            have HT1 : Hid (R4 w2 gt (tmpW 4 I f)) := HT0.out.congr fun t _ => by
              unfold tmpW; rw [if_neg hA, if_neg (by omega), Nat.mul_comm]
            have HO3 := HO2
            have HB3 := HB2
            have e1 : ((I : Int) % 4 == 0) = false := by simp; omega
            have e2 : (((I : Int).tmod 4) == 0) = false := by rw [Int.tmod_eq_emod_of_nonneg (by omega)]; exact e1
            clear HT0 HO2 HB2 c0 c1 c2 c3 f0 f1 f2 f3 v0 v1 v2 v3 ix0 ix1 ix2 ix3
            go_wp2_with (fail)
            clear hA e1 e2
            go_loopw [9] (fun i wx => ∃ (j : Nat) (T : Nat → Nat), Hid (j ≤ 4) ∧ i = .int .i64 j ∧ Hid (∀ t, T t = if t < j then stepW 4 I f t else tmpW 4 I f t) ∧ Hid (R4 wx gt T) ∧ Hid (Own w wx (some ⟨g, 0, none⟩) c I f) ∧ Hid (Below w.heap.size w wx)) (fun i _ => 4 - (intOf i).toNat)
            case atStart => exact ⟨0, tmpW 4 I f, Nat.zero_le 4, rfl, fun t => by rw [if_neg (Nat.not_lt_zero t)], HT1, HO3, HB3⟩
            case round =>
              clear HT1 HO3 HB3
              obtain ⟨j, T, hj, rfl, hT, HT1, HO3, HB3⟩ := hrel
              by_cases hlt : j < 4
              · have jl : ((j : Int) < 4) = True := eq_true (by omega)
                have HJ := Lib.hid hlt
                have HTj : Hid (T j = tmpW 4 I f j) := by have := hT.out j; rwa [if_neg (Nat.lt_irrefl j)] at this
                have HTl : Hid (T j < 256) := by show T j < 256; rw [HTj.out]; exact tmpW_lt HFl.out j
                have tc := World.rowIs.cell HT1.out (i := j) hlt
                have tf := World.rowIs.frozen HT1.out j
                have oc := HO3.out.cell ((I - 4) * 4 + j) (by omega)
                have z0 : ((I : Int) - 4).toNat = I - 4 := by omega
                have z1 : IntKind.i64.wrap ((I : Int) - 4) = (I : Int) - 4 := IntWalk.i64_in _ (by omega)
                have z2 : (0 : Int) ≤ (I : Int) - 4 := by omega
                have z4 : (4 : Int) ≤ (I : Int) := by omega
                have z3 : (I : Int) - 4 < (I : Int) := by omega
                have wj : wrap64 ((j : Int) + 1) = (j : Int) + 1 := IntWalk.wrap64_in _ (by omega)
                clear hlt
                go_wp2_with (fail)
                refine wp_region_still_tail 14 (by kernel_rfl) (by kernel_rfl) ?_
                simp only [List.take_succ_cons, List.take_zero, List.drop_succ_cons, List.drop_zero]
                repeat still_step
                try refine wpStill_nil ?_
                change wpList _ _ _ _ _ wr.drew
                clear z0 z1 z2 z3 z4
                go_wp2_with (fail)
                simp only [wj]
                rw [u8_xor _ _ HTl.out (HFl.out _)]
                refine ⟨⟨j + 1, fun i => if i = j then T j ^^^ f ((I - 4) * 4 + j) else T i, HJ.out, by go_num, fun t => ?_, (HT1.out.set j _).drew, (HO3.out.far HG.out _).drew, (HB3.out.setCell HGw.out _).drew⟩, meas 4 j HJ.out⟩
                show (if t = j then _ else T t) = _
                by_cases h : t = j
                · subst h
                  rw [if_pos rfl, if_pos (Nat.lt_succ_self _), HTj.out, Nat.mul_comm]; rfl
                · rw [if_neg h, hT.out t]
                  by_cases h2 : t < j
                  · rw [if_pos h2, if_pos (by omega)]
                  · rw [if_neg h2, if_neg (by omega)]
              · have jl : ((j : Int) < 4) = False := eq_false (by omega)
                have HT4 : Hid (R4 wr gt (stepW 4 I f)) := HT1.out.congr fun t ht => by rw [hT.out t, if_pos (by have := hj.out; omega)]
                have c0 : wr.cell? ⟨gt, 0, none⟩ = some (.int .u8 (stepW 4 I f 0 : Nat)) := World.rowIs.cell HT4.out (i := 0) (by decide)
                have c1 : wr.cell? ⟨gt, 1, none⟩ = some (.int .u8 (stepW 4 I f 1 : Nat)) := World.rowIs.cell HT4.out (i := 1) (by decide)
                have c2 : wr.cell? ⟨gt, 2, none⟩ = some (.int .u8 (stepW 4 I f 2 : Nat)) := World.rowIs.cell HT4.out (i := 2) (by decide)
                have c3 : wr.cell? ⟨gt, 3, none⟩ = some (.int .u8 (stepW 4 I f 3 : Nat)) := World.rowIs.cell HT4.out (i := 3) (by decide)
                clear hlt hT HT1
                go_wp2_with (at_builtin; refine wpList_append_lies _ rfl _ _ 63 rfl w.heap.size 87 i0 _ 4 4 Tryz.underlying63 HJ0.out HJ1.out HJ2.out HJ3.out rfl (by decide) (.slice (some ⟨g, 0, none⟩) I c) I (cellsF f I) rfl (World.ownsRow.alloc HO3.out _) ⟨wr.heap.size, 0, none⟩ 1 1 _ rfl rfl (four_cells wr _ _ _ _) four_one (by decide) (by unfold maxLen; omega) (by omega) (by have := HB3.out.size; simp; omega) (wr.heap.size + 1) (by simp) ?_)
                intro g2 cap w4 hown hgrow _ hlt
                rw [cellsF_succ f (exS 4 key (I + 1 - 4)) I _ _ _ _ (fun t ht => by rw [HFs.out]; exact if_neg (by omega)) (by rw [HFs.out]; exact (if_pos (by omega)).trans (by rw [show 4 * I % 4 = 0 by omega])) (by rw [HFs.out]; exact (if_pos (by omega)).trans (by rw [show (4 * I + 1) % 4 = 1 by omega])) (by rw [HFs.out]; exact (if_pos (by omega)).trans (by rw [show (4 * I + 2) % 4 = 2 by omega])) (by rw [HFs.out]; exact (if_pos (by omega)).trans (by rw [show (4 * I + 3) % 4 = 3 by omega]))] at hown
                have HO4 : Hid (Own w w4 (some ⟨g2, 0, none⟩) cap (I + 1) (exS 4 key (I + 1 - 4))) := hown
                have HB4 : Hid (Below w.heap.size w w4) := (HB3.out.alloc HB3.out.size _).grown hgrow (by have := HB3.out.size; simp; omega) (fun k hk => (World.ownsRow.lt HO3.out k hk).1)
                clear hown hgrow hlt c0 c1 c2 c3
                go_wp2_with (fail)
                exact ⟨⟨I + 1, g2, cap, ⟨by omega, HL.out⟩, by go_num, by rw [HR2.out], rfl, HO4, HB4⟩, meas 44 I HL.out⟩
        · have il : ((I : Int) < 44) = False := eq_false (by omega)
          obtain ⟨g', hg', hgw, hgx⟩ := HO.out.at_ (by omega)
          injection hg' with hg'
          injection hg' with hg'
          subst hg'
          obtain rfl : I = 44 := by omega
          have HE : Hid (Keys wr g 44 f) := fun t ht => HO.out.cell t ht
          have HW1 := Lib.hid hgw
          have HW2 := Lib.hid hgx
          clear hlt hgw hgx hI1 hI2 hI HFs HRq
          go_wp2_with (fail)
          go_ret
          exact ⟨g, c, rfl, HW1.out, HW2.out, HB.out, HEf.out ▸ HE.out⟩
set_option maxHeartbeats 4000000 in
set_option maxRecDepth 10000 in
theorem sched_32 (key : ByteArray) (w : World) (hs : key.size = 32) :
    Calls Tryz.prog 36 #[.string key] w (Sched w 60 (exS 8 key 52)) := by
  obtain ⟨i0, hi0, hz0, hz1, hz2⟩ := info_parts (P := Tryz.prog) (e := 87) (z := .agg #[.int .u8 0, .int .u8 0, .int .u8 0, .int .u8 0]) (size := 4) (bytes := 4) (by kernel_rfl)
  have HJ0 := Lib.hid hi0
  have HJ1 := Lib.hid hz0
  have HJ2 := Lib.hid hz1
  have HJ3 := Lib.hid hz2
  clear hi0 hz0 hz1 hz2
  have q0 : (key.size : Int) / 4 = 8 := by omega
  have HSz := Lib.hid hs
  go_enter Tryz.func36, Tryz.ntmps36
  go_wp2_with (fail)
  go_loopw [4, 5] (fun v i wx => ∃ (j : Nat) (A : Option Addr) (c : Nat), Hid (j ≤ 8) ∧ i = .int .i64 j ∧ v = .slice A j c ∧ Hid (Own w wx A c j (byt key)) ∧ Hid (Below w.heap.size w wx)) (fun _ i _ => 8 - (intOf i).toNat)
  case atStart => exact ⟨0, none, 0, Nat.zero_le 8, rfl, rfl, World.ownsRow_nil _ _ _ _, Below.refl _ _⟩
  case round =>
    obtain ⟨j, A, c, hj, rfl, rfl, HO, HB⟩ := hrel
    by_cases hlt : j < 8
    · have jl : ((j : Int) < 8) = True := eq_true (by omega)
      have HJ := Lib.hid hlt
      have x0 : IntKind.i64.wrap (4 * (j : Int)) = 4 * (j : Int) := IntWalk.i64_in _ (by omega)
      have x1 : IntKind.i64.wrap (4 * (j : Int) + 1) = 4 * (j : Int) + 1 := IntWalk.i64_in _ (by omega)
      have x2 : IntKind.i64.wrap (4 * (j : Int) + 2) = 4 * (j : Int) + 2 := IntWalk.i64_in _ (by omega)
      have x3 : IntKind.i64.wrap (4 * (j : Int) + 3) = 4 * (j : Int) + 3 := IntWalk.i64_in _ (by omega)
      have p0 : (0 : Int) ≤ 4 * (j : Int) := by omega
      have p1 : (0 : Int) ≤ 4 * (j : Int) + 1 := by omega
      have p2 : (0 : Int) ≤ 4 * (j : Int) + 2 := by omega
      have p3 : (0 : Int) ≤ 4 * (j : Int) + 3 := by omega
      have l0 : 4 * (j : Int) < 32 := by omega
      have l1 : 4 * (j : Int) + 1 < 32 := by omega
      have l2 : 4 * (j : Int) + 2 < 32 := by omega
      have l3 : 4 * (j : Int) + 3 < 32 := by omega
      have t0 : (4 * (j : Int)).toNat = 4 * j := by omega
      have t1 : (4 * (j : Int) + 1).toNat = 4 * j + 1 := by omega
      have t2 : (4 * (j : Int) + 2).toNat = 4 * j + 2 := by omega
      have t3 : (4 * (j : Int) + 3).toNat = 4 * j + 3 := by omega
      clear hlt
      go_wp2_with (fail)
      refine wp_region_any (by kernel_rfl) ?_
      change wpAny _ _ _ _ _ _ _ wr.drew
      refine wpAny_take (i := 0) (v := .slice A j c) rfl (by kernel_rfl) (by kernel_rfl) (by kernel_rfl) (fun _ _ _ h => h) (Or.inl ⟨by rfl, fun w => by go_simp⟩) ?_
      simp only [Act.put, List.setIfInBounds_toArray]
      refine wpAny_take (i := 1) (v := .string key) rfl (by kernel_rfl) (by kernel_rfl) (by kernel_rfl) (fun _ _ _ h => h) (Or.inl ⟨by rfl, fun w => by go_simp⟩) ?_
      simp only [Act.put]
      refine wpAny_take (i := 2) (v := .int .i64 (j : Int)) rfl (by kernel_rfl) (by kernel_rfl) (by kernel_rfl) (fun _ _ _ h => h) (Or.inl ⟨by rfl, fun w => by go_simp⟩) ?_
      simp only [Act.put]
      refine wpAny_take (i := 3) (v := .int .i64 (4 * (j : Int))) rfl (by kernel_rfl) (by kernel_rfl) (by kernel_rfl) (fun _ _ _ h => h) (Or.inl ⟨by rfl, fun w => by go_simp⟩) ?_
      simp only [Act.put]
      refine wpAny_take (i := 4) (v := .int .u8 (byt key (4 * j) : Nat)) rfl (by kernel_rfl) (by kernel_rfl) (by kernel_rfl) (fun _ _ _ h => h) (Or.inl ⟨by rfl, fun w => by go_simp; simp only [get_byt]⟩) ?_
      simp only [Act.put]
      refine wpAny_take (i := 5) (v := .string key) rfl (by kernel_rfl) (by kernel_rfl) (by kernel_rfl) (fun _ _ _ h => h) (Or.inl ⟨by rfl, fun w => by go_simp⟩) ?_
      simp only [Act.put]
      refine wpAny_take (i := 6) (v := .int .i64 (j : Int)) rfl (by kernel_rfl) (by kernel_rfl) (by kernel_rfl) (fun _ _ _ h => h) (Or.inl ⟨by rfl, fun w => by go_simp⟩) ?_
      simp only [Act.put]
      refine wpAny_take (i := 7) (v := .int .i64 (4 * (j : Int))) rfl (by kernel_rfl) (by kernel_rfl) (by kernel_rfl) (fun _ _ _ h => h) (Or.inl ⟨by rfl, fun w => by go_simp⟩) ?_
      simp only [Act.put]
      refine wpAny_take (i := 8) (v := .int .i64 (4 * (j : Int) + 1)) rfl (by kernel_rfl) (by kernel_rfl) (by kernel_rfl) (fun _ _ _ h => h) (Or.inl ⟨by rfl, fun w => by go_simp⟩) ?_
      simp only [Act.put]
      refine wpAny_take (i := 9) (v := .int .u8 (byt key (4 * j + 1) : Nat)) rfl (by kernel_rfl) (by kernel_rfl) (by kernel_rfl) (fun _ _ _ h => h) (Or.inl ⟨by rfl, fun w => by go_simp; simp only [get_byt]⟩) ?_
      simp only [Act.put]
      refine wpAny_take (i := 10) (v := .string key) rfl (by kernel_rfl) (by kernel_rfl) (by kernel_rfl) (fun _ _ _ h => h) (Or.inl ⟨by rfl, fun w => by go_simp⟩) ?_
      simp only [Act.put]
      refine wpAny_take (i := 11) (v := .int .i64 (j : Int)) rfl (by kernel_rfl) (by kernel_rfl) (by kernel_rfl) (fun _ _ _ h => h) (Or.inl ⟨by rfl, fun w => by go_simp⟩) ?_
      simp only [Act.put]
      refine wpAny_take (i := 12) (v := .int .i64 (4 * (j : Int))) rfl (by kernel_rfl) (by kernel_rfl) (by kernel_rfl) (fun _ _ _ h => h) (Or.inl ⟨by rfl, fun w => by go_simp⟩) ?_
      simp only [Act.put]
      refine wpAny_take (i := 13) (v := .int .i64 (4 * (j : Int) + 2)) rfl (by kernel_rfl) (by kernel_rfl) (by kernel_rfl) (fun _ _ _ h => h) (Or.inl ⟨by rfl, fun w => by go_simp⟩) ?_
      simp only [Act.put]
      refine wpAny_take (i := 14) (v := .int .u8 (byt key (4 * j + 2) : Nat)) rfl (by kernel_rfl) (by kernel_rfl) (by kernel_rfl) (fun _ _ _ h => h) (Or.inl ⟨by rfl, fun w => by go_simp; simp only [get_byt]⟩) ?_
      simp only [Act.put]
      refine wpAny_take (i := 15) (v := .string key) rfl (by kernel_rfl) (by kernel_rfl) (by kernel_rfl) (fun _ _ _ h => h) (Or.inl ⟨by rfl, fun w => by go_simp⟩) ?_
      simp only [Act.put]
      refine wpAny_take (i := 16) (v := .int .i64 (j : Int)) rfl (by kernel_rfl) (by kernel_rfl) (by kernel_rfl) (fun _ _ _ h => h) (Or.inl ⟨by rfl, fun w => by go_simp⟩) ?_
      simp only [Act.put]
      refine wpAny_take (i := 17) (v := .int .i64 (4 * (j : Int))) rfl (by kernel_rfl) (by kernel_rfl) (by kernel_rfl) (fun _ _ _ h => h) (Or.inl ⟨by rfl, fun w => by go_simp⟩) ?_
      simp only [Act.put]
      refine wpAny_take (i := 18) (v := .int .i64 (4 * (j : Int) + 3)) rfl (by kernel_rfl) (by kernel_rfl) (by kernel_rfl) (fun _ _ _ h => h) (Or.inl ⟨by rfl, fun w => by go_simp⟩) ?_
      simp only [Act.put]
      refine wpAny_take (i := 19) (v := .int .u8 (byt key (4 * j + 3) : Nat)) rfl (by kernel_rfl) (by kernel_rfl) (by kernel_rfl) (fun _ _ _ h => h) (Or.inl ⟨by rfl, fun w => by go_simp; simp only [get_byt]⟩) ?_
      simp only [Act.put]
      refine wpAny_take (i := 20) (v := .agg #[.int .u8 (byt key (4 * j) : Nat), .int .u8 (byt key (4 * j + 1) : Nat), .int .u8 (byt key (4 * j + 2) : Nat), .int .u8 (byt key (4 * j + 3) : Nat)]) rfl (by kernel_rfl) (by kernel_rfl) (by kernel_rfl) (fun _ _ _ h => h) (Or.inl ⟨by rfl, fun w => by go_simp⟩) ?_
      simp only [Act.put]
      refine wpAny_ready (rs := [21]) (by kernel_rfl) (by simp) ?_
      refine ready_val rfl rfl (.slice (some ⟨wr.heap.size, 0, none⟩) 1 1) (wr.drew.alloc (.cells #[.int .u8 (byt key (4 * j) : Nat), .int .u8 (byt key (4 * j + 1) : Nat), .int .u8 (byt key (4 * j + 2) : Nat), .int .u8 (byt key (4 * j + 3) : Nat)] 87)) (by go_simp) ?_ AllReady.nil
      simp only [Act.put]
      refine wpAny_ready (rs := [22]) (by kernel_rfl) (by simp) ?_
      refine ready_plain rfl rfl (fun K hK => wp_append_lies _ _ _ 63 rfl w.heap.size 87 i0 _ 4 4 Tryz.underlying63 HJ0.out HJ1.out HJ2.out HJ3.out rfl (by decide) (.slice A j c) j (cellsF (byt key) j) (by kernel_rfl) (World.ownsRow.alloc HO.out.drew _) ⟨wr.heap.size, 0, none⟩ 1 1 _ (by kernel_rfl) rfl (four_cells wr.drew _ _ _ _) four_one (by decide) (by unfold maxLen; have := HJ.out; omega) (by have := HJ.out; omega) (by have := HB.out.size; simp; omega) (wr.heap.size + 1) (by simp) ?_) AllReady.nil
      intro g cap w1 hown hgrow _ hlt
      refine hK _ _ ?_
      rw [cellsF_succ (byt key) (byt key) j _ _ _ _ (fun _ _ => rfl) rfl rfl rfl rfl] at hown
      have HO1 : Hid (Own w w1 (some ⟨g, 0, none⟩) cap (j + 1) (byt key)) := hown
      have HB1 : Hid (Below w.heap.size w w1) := (HB.out.drew.alloc HB.out.size _).grown hgrow (by have := HB.out.size; simp; omega) (fun k hk => (World.ownsRow.lt HO.out k hk).1)
      clear hown hgrow hlt x0 x1 x2 x3 p0 p1 p2 p3 l0 l1 l2 l3 t0 t1 t2 t3
      simp only [Act.put]
      refine wpAny_take (i := 23) (v := .slice (some ⟨g, 0, none⟩) (j + 1) cap) rfl (by kernel_rfl) (by kernel_rfl) (by kernel_rfl) (fun _ _ _ h => h) (Or.inl ⟨by rfl, fun w => by go_simp⟩) ?_
      simp only [Act.put]
      refine wpAny_done (by kernel_rfl) ?_ _
      have wj : wrap64 ((j : Int) + 1) = (j : Int) + 1 := IntWalk.wrap64_in _ (by have := HJ.out; omega)
      go_wp2_with (fail)
      simp only [wj]
      exact ⟨⟨j + 1, _, _, HJ.out, by go_num, rfl, HO1, HB1⟩, meas 8 j HJ.out⟩
    · obtain rfl : j = 8 := by have := hj.out; omega
      have jl : ((8 : Int) < 8) = False := eq_false (by omega)
      obtain ⟨g, rfl, hg, hgx⟩ := HO.out.at_ (by decide)
      clear hlt hj hg hgx
      go_wp2_with (fail)
      clear jl
      rw [show ((8 : Nat) : Int) = 8 from rfl]
      go_loopw [4, 6, 7] (fun v r i wx => ∃ (I g c : Nat), Hid (8 ≤ I ∧ I ≤ 60) ∧ i = .int .i64 I ∧ r = .int .u8 (rc ((I + 8 - 1) / 8 - 1) : Nat) ∧ v = .slice (some ⟨g, 0, none⟩) I c ∧ Hid (Own w wx (some ⟨g, 0, none⟩) c I (exS 8 key (I - 8))) ∧ Hid (Below w.heap.size w wx)) (fun _ _ i _ => 60 - (intOf i).toNat)
      case atStart => exact ⟨8, g, c, ⟨by decide, by decide⟩, rfl, rfl, rfl, HO, HB⟩
      case round =>
        clear HO HB
        obtain ⟨I, g, c, hI, rfl, rfl, rfl, HO, HB⟩ := hrel
        have HFl : Hid (∀ t, exS 8 key (I - 8) t < 256) := exS_lt 8 key (I - 8)
        have HFs : Hid (exS 8 key (I + 1 - 8) = fun t => if t / 4 = I then stepW 8 I (exS 8 key (I - 8)) (t % 4) else exS 8 key (I - 8) t) := by
          have e : I + 1 - 8 = (I - 8) + 1 := by have := hI.out; omega
          show exS 8 key (I + 1 - 8) = _
          rw [e]
          show (fun t => if t / 4 = 8 + (I - 8) then stepW 8 (8 + (I - 8)) (exS 8 key (I - 8)) (t % 4) else exS 8 key (I - 8) t) = _
          rw [show 8 + (I - 8) = I by have := hI.out; omega]
        generalize hEf : exS 8 key (I - 8) = f at HO HFl HFs
        have HEf := Lib.hid hEf
        clear hEf
        generalize hRq : rc ((I + 8 - 1) / 8 - 1) = R
        have HRq := Lib.hid hRq
        have HRl : Hid (R < 256) := by show R < 256; rw [← hRq]; exact rc_lt _
        clear hRq
        obtain ⟨hI1, hI2⟩ := hI.out
        by_cases hlt : I < 60
        · have il : ((I : Int) < 60) = True := eq_true (by omega)
          have HL := Lib.hid hlt
          have m0 := HO.out.cell ((I - 1) * 4) (by omega)
          have m1 := HO.out.cell ((I - 1) * 4 + 1) (by omega)
          have m2 := HO.out.cell ((I - 1) * 4 + 2) (by omega)
          have m3 := HO.out.cell ((I - 1) * 4 + 3) (by omega)
          have y0 : ((I : Int) - 1).toNat = I - 1 := by omega
          have p0 : (0 : Int) ≤ (I : Int) - 1 := by omega
          have p1 : (I : Int) - 1 < (I : Int) := by omega
          go_upto_region 12 with (fail)
          have HT0 : Hid (R4 (wr.alloc (.cells #[.int .u8 (f ((I - 1) * 4) : Nat), .int .u8 (f ((I - 1) * 4 + 1) : Nat), .int .u8 (f ((I - 1) * 4 + 2) : Nat), .int .u8 (f ((I - 1) * 4 + 3) : Nat)] 87)) wr.heap.size (fun i => f ((I - 1) * 4 + i))) :=
            (r4_new wr _ _ _ _).congr (lt4 rfl rfl rfl rfl)
          have HO2 : Hid (Own w (wr.alloc (.cells #[.int .u8 (f ((I - 1) * 4) : Nat), .int .u8 (f ((I - 1) * 4 + 1) : Nat), .int .u8 (f ((I - 1) * 4 + 2) : Nat), .int .u8 (f ((I - 1) * 4 + 3) : Nat)] 87)) (some ⟨g, 0, none⟩) c I f) := HO.out.alloc _
          have HB2 : Hid (Below w.heap.size w (wr.alloc (.cells #[.int .u8 (f ((I - 1) * 4) : Nat), .int .u8 (f ((I - 1) * 4 + 1) : Nat), .int .u8 (f ((I - 1) * 4 + 2) : Nat), .int .u8 (f ((I - 1) * 4 + 3) : Nat)] 87))) := HB.out.alloc HB.out.size _
          have HG : Hid (g ≠ wr.heap.size) := by
            obtain ⟨g', hg', _, hlt'⟩ := HO.out.at_ (by omega)
            injection hg' with hg'; injection hg' with hg'
            show g ≠ wr.heap.size
            omega
          have HGw : Hid (w.heap.size ≤ wr.heap.size) := HB.out.size
          clear m0 m1 m2 m3 y0 p0 p1 HO HB
          generalize wr.alloc (.cells #[.int .u8 (f ((I - 1) * 4) : Nat), .int .u8 (f ((I - 1) * 4 + 1) : Nat), .int .u8 (f ((I - 1) * 4 + 2) : Nat), .int .u8 (f ((I - 1) * 4 + 3) : Nat)] 87) = w2 at HT0 HO2 HB2 ⊢
          generalize wr.heap.size = gt at HT0 HG HGw ⊢
          have c0 : w2.cell? ⟨gt, 0, none⟩ = some (.int .u8 (f ((I - 1) * 4 + 0) : Nat)) := World.rowIs.cell HT0.out (i := 0) (by decide)
          have c1 : w2.cell? ⟨gt, 1, none⟩ = some (.int .u8 (f ((I - 1) * 4 + 1) : Nat)) := World.rowIs.cell HT0.out (i := 1) (by decide)
          have c2 : w2.cell? ⟨gt, 2, none⟩ = some (.int .u8 (f ((I - 1) * 4 + 2) : Nat)) := World.rowIs.cell HT0.out (i := 2) (by decide)
          have c3 : w2.cell? ⟨gt, 3, none⟩ = some (.int .u8 (f ((I - 1) * 4 + 3) : Nat)) := World.rowIs.cell HT0.out (i := 3) (by decide)
          have f0 := World.rowIs.frozen HT0.out 0
          have f1 := World.rowIs.frozen HT0.out 1
          have f2 := World.rowIs.frozen HT0.out 2
          have f3 := World.rowIs.frozen HT0.out 3
          have b0 := HFl.out ((I - 1) * 4 + 0)
          generalize hx0 : f ((I - 1) * 4 + 0) = x0 at c0 b0
          have HX0 := Lib.hid hx0
          clear hx0
          have ix0 : (x0 : Int) < 256 := by omega
          have v0 := box_get x0 b0
          have b1 := HFl.out ((I - 1) * 4 + 1)
          generalize hx1 : f ((I - 1) * 4 + 1) = x1 at c1 b1
          have HX1 := Lib.hid hx1
          clear hx1
          have ix1 : (x1 : Int) < 256 := by omega
          have v1 := box_get x1 b1
          have b2 := HFl.out ((I - 1) * 4 + 2)
          generalize hx2 : f ((I - 1) * 4 + 2) = x2 at c2 b2
          have HX2 := Lib.hid hx2
          clear hx2
          have ix2 : (x2 : Int) < 256 := by omega
          have v2 := box_get x2 b2
          have b3 := HFl.out ((I - 1) * 4 + 3)
          generalize hx3 : f ((I - 1) * 4 + 3) = x3 at c3 b3
          have HX3 := Lib.hid hx3
          clear hx3
          have ix3 : (x3 : Int) < 256 := by omega
          have v3 := box_get x3 b3
          unfold boxS at v0 v1 v2 v3
          by_cases hA : I % 8 = 0
          · have HV : Hid (tmpW 8 I f 0 = bx x1 ^^^ R ∧ tmpW 8 I f 1 = bx x2 ∧ tmpW 8 I f 2 = bx x3 ∧ tmpW 8 I f 3 = bx x0) := by
              have h (j : Nat) : tmpW 8 I f j = if j = 0 then bx (f (4 * (I - 1) + 1)) ^^^ rc ((I + 8 - 1) / 8 - 1) else bx (f (4 * (I - 1) + (j + 1) % 4)) := by unfold tmpW; rw [if_pos hA]
              have o (k : Nat) : 4 * (I - 1) + k = (I - 1) * 4 + k := by omega
              refine ⟨?_, ?_, ?_, ?_⟩
              · rw [h, if_pos rfl, o, HX1.out, HRq.out]
              · rw [h, if_neg (by decide), show (1 + 1) % 4 = 2 from rfl, o, HX2.out]
              · rw [h, if_neg (by decide), show (2 + 1) % 4 = 3 from rfl, o, HX3.out]
              · rw [h, if_neg (by decide), show (3 + 1) % 4 = 0 from rfl, o, HX0.out]
            have HR2 : Hid (dbl R = rc ((I + 1 + 8 - 1) / 8 - 1)) := by
              show dbl R = _
              rw [show (I + 1 + 8 - 1) / 8 - 1 = ((I + 8 - 1) / 8 - 1) + 1 by omega]
              show dbl R = dbl (rc ((I + 8 - 1) / 8 - 1))
              rw [HRq.out]
            have e1 : ((I : Int) % 8 == 0) = true := by simp; omega
            have e2 : (((I : Int).tmod 8) == 0) = true := by rw [Int.tmod_eq_emod_of_nonneg (by omega)]; exact e1
            go_wp2_with (fail)
            refine wp_region_still_tail 15 (by kernel_rfl) (by kernel_rfl) ?_
            simp only [List.take_succ_cons, List.take_zero, List.drop_succ_cons, List.drop_zero]
            repeat still_step
            try refine wpStill_nil ?_
            change wpList _ _ _ _ _ w2.drew
            clear v0 v1 v2 v3 ix0 ix1 ix2 ix3
            go_wp2_with (go_at_call 61; refine (double_any R _ HRl.out).mono ?_; rintro e u ⟨rfl, rfl⟩)
            rw [u8_xor _ _ (bx_lt _ b1) HRl.out]
            have HT1 : Hid (R4 ((((w2.setCell ⟨gt, 0, none⟩ (.int .u8 (bx x1 ^^^ R : Nat))).setCell ⟨gt, 1, none⟩ (.int .u8 (bx x2 : Nat))).setCell ⟨gt, 2, none⟩ (.int .u8 (bx x3 : Nat))).setCell ⟨gt, 3, none⟩ (.int .u8 (bx x0 : Nat))).drew gt (tmpW 8 I f)) := R4.congr ((((HT0.out.set 0 _).set 1 _).set 2 _).set 3 _).drew (lt4 HV.out.1.symm HV.out.2.1.symm HV.out.2.2.1.symm HV.out.2.2.2.symm)
            have HO3 : Hid (Own w ((((w2.setCell ⟨gt, 0, none⟩ (.int .u8 (bx x1 ^^^ R : Nat))).setCell ⟨gt, 1, none⟩ (.int .u8 (bx x2 : Nat))).setCell ⟨gt, 2, none⟩ (.int .u8 (bx x3 : Nat))).setCell ⟨gt, 3, none⟩ (.int .u8 (bx x0 : Nat))).drew (some ⟨g, 0, none⟩) c I f) := ((((HO2.out.far HG.out _).far HG.out _).far HG.out _).far HG.out _).drew
            have HB3 : Hid (Below w.heap.size w ((((w2.setCell ⟨gt, 0, none⟩ (.int .u8 (bx x1 ^^^ R : Nat))).setCell ⟨gt, 1, none⟩ (.int .u8 (bx x2 : Nat))).setCell ⟨gt, 2, none⟩ (.int .u8 (bx x3 : Nat))).setCell ⟨gt, 3, none⟩ (.int .u8 (bx x0 : Nat))).drew) := ((((HB2.out.setCell HGw.out _).setCell HGw.out _).setCell HGw.out _).setCell HGw.out _).drew
            clear HT0 HO2 HB2 c0 c1 c2 c3 f0 f1 f2 f3
            generalize ((((w2.setCell ⟨gt, 0, none⟩ (.int .u8 (bx x1 ^^^ R : Nat))).setCell ⟨gt, 1, none⟩ (.int .u8 (bx x2 : Nat))).setCell ⟨gt, 2, none⟩ (.int .u8 (bx x3 : Nat))).setCell ⟨gt, 3, none⟩ (.int .u8 (bx x0 : Nat))).drew = w3 at HT1 HO3 HB3 ⊢
            clear hA e1 e2
            go_loopw [9] (fun i wx => ∃ (j : Nat) (T : Nat → Nat), Hid (j ≤ 4) ∧ i = .int .i64 j ∧ Hid (∀ t, T t = if t < j then stepW 8 I f t else tmpW 8 I f t) ∧ Hid (R4 wx gt T) ∧ Hid (Own w wx (some ⟨g, 0, none⟩) c I f) ∧ Hid (Below w.heap.size w wx)) (fun i _ => 4 - (intOf i).toNat)
            case atStart => exact ⟨0, tmpW 8 I f, Nat.zero_le 4, rfl, fun t => by rw [if_neg (Nat.not_lt_zero t)], HT1, HO3, HB3⟩
            case round =>
              clear HT1 HO3 HB3
              obtain ⟨j, T, hj, rfl, hT, HT1, HO3, HB3⟩ := hrel
              by_cases hlt : j < 4
              · have jl : ((j : Int) < 4) = True := eq_true (by omega)
                have HJ := Lib.hid hlt
                have HTj : Hid (T j = tmpW 8 I f j) := by have := hT.out j; rwa [if_neg (Nat.lt_irrefl j)] at this
                have HTl : Hid (T j < 256) := by show T j < 256; rw [HTj.out]; exact tmpW_lt HFl.out j
                have tc := World.rowIs.cell HT1.out (i := j) hlt
                have tf := World.rowIs.frozen HT1.out j
                have oc := HO3.out.cell ((I - 8) * 4 + j) (by omega)
                have z0 : ((I : Int) - 8).toNat = I - 8 := by omega
                have z1 : IntKind.i64.wrap ((I : Int) - 8) = (I : Int) - 8 := IntWalk.i64_in _ (by omega)
                have z2 : (0 : Int) ≤ (I : Int) - 8 := by omega
                have z4 : (8 : Int) ≤ (I : Int) := by omega
                have z3 : (I : Int) - 8 < (I : Int) := by omega
                have wj : wrap64 ((j : Int) + 1) = (j : Int) + 1 := IntWalk.wrap64_in _ (by omega)
                clear hlt
                go_wp2_with (fail)
                refine wp_region_still_tail 14 (by kernel_rfl) (by kernel_rfl) ?_
                simp only [List.take_succ_cons, List.take_zero, List.drop_succ_cons, List.drop_zero]
                repeat still_step
                try refine wpStill_nil ?_
                change wpList _ _ _ _ _ wr.drew
                clear z0 z1 z2 z3 z4
                go_wp2_with (fail)
                simp only [wj]
                rw [u8_xor _ _ HTl.out (HFl.out _)]
                refine ⟨⟨j + 1, fun i => if i = j then T j ^^^ f ((I - 8) * 4 + j) else T i, HJ.out, by go_num, fun t => ?_, (HT1.out.set j _).drew, (HO3.out.far HG.out _).drew, (HB3.out.setCell HGw.out _).drew⟩, meas 4 j HJ.out⟩
                show (if t = j then _ else T t) = _
                by_cases h : t = j
                · subst h
                  rw [if_pos rfl, if_pos (Nat.lt_succ_self _), HTj.out, Nat.mul_comm]; rfl
                · rw [if_neg h, hT.out t]
                  by_cases h2 : t < j
                  · rw [if_pos h2, if_pos (by omega)]
                  · rw [if_neg h2, if_neg (by omega)]
              · have jl : ((j : Int) < 4) = False := eq_false (by omega)
                have HT4 : Hid (R4 wr gt (stepW 8 I f)) := HT1.out.congr fun t ht => by rw [hT.out t, if_pos (by have := hj.out; omega)]
                have c0 : wr.cell? ⟨gt, 0, none⟩ = some (.int .u8 (stepW 8 I f 0 : Nat)) := World.rowIs.cell HT4.out (i := 0) (by decide)
                have c1 : wr.cell? ⟨gt, 1, none⟩ = some (.int .u8 (stepW 8 I f 1 : Nat)) := World.rowIs.cell HT4.out (i := 1) (by decide)
                have c2 : wr.cell? ⟨gt, 2, none⟩ = some (.int .u8 (stepW 8 I f 2 : Nat)) := World.rowIs.cell HT4.out (i := 2) (by decide)
                have c3 : wr.cell? ⟨gt, 3, none⟩ = some (.int .u8 (stepW 8 I f 3 : Nat)) := World.rowIs.cell HT4.out (i := 3) (by decide)
                clear hlt hT HT1
                go_wp2_with (at_builtin; refine wpList_append_lies _ rfl _ _ 63 rfl w.heap.size 87 i0 _ 4 4 Tryz.underlying63 HJ0.out HJ1.out HJ2.out HJ3.out rfl (by decide) (.slice (some ⟨g, 0, none⟩) I c) I (cellsF f I) rfl (World.ownsRow.alloc HO3.out _) ⟨wr.heap.size, 0, none⟩ 1 1 _ rfl rfl (four_cells wr _ _ _ _) four_one (by decide) (by unfold maxLen; omega) (by omega) (by have := HB3.out.size; simp; omega) (wr.heap.size + 1) (by simp) ?_)
                intro g2 cap w4 hown hgrow _ hlt
                rw [cellsF_succ f (exS 8 key (I + 1 - 8)) I _ _ _ _ (fun t ht => by rw [HFs.out]; exact if_neg (by omega)) (by rw [HFs.out]; exact (if_pos (by omega)).trans (by rw [show 4 * I % 4 = 0 by omega])) (by rw [HFs.out]; exact (if_pos (by omega)).trans (by rw [show (4 * I + 1) % 4 = 1 by omega])) (by rw [HFs.out]; exact (if_pos (by omega)).trans (by rw [show (4 * I + 2) % 4 = 2 by omega])) (by rw [HFs.out]; exact (if_pos (by omega)).trans (by rw [show (4 * I + 3) % 4 = 3 by omega]))] at hown
                have HO4 : Hid (Own w w4 (some ⟨g2, 0, none⟩) cap (I + 1) (exS 8 key (I + 1 - 8))) := hown
                have HB4 : Hid (Below w.heap.size w w4) := (HB3.out.alloc HB3.out.size _).grown hgrow (by have := HB3.out.size; simp; omega) (fun k hk => (World.ownsRow.lt HO3.out k hk).1)
                clear hown hgrow hlt c0 c1 c2 c3
                go_wp2_with (fail)
                exact ⟨⟨I + 1, g2, cap, ⟨by omega, HL.out⟩, by go_num, by rw [HR2.out], rfl, HO4, HB4⟩, meas 60 I HL.out⟩
          · by_cases hC : I % 8 = 4
            · have HR2 : Hid (R = rc ((I + 1 + 8 - 1) / 8 - 1)) := by
                show R = _
                rw [show (I + 1 + 8 - 1) / 8 - 1 = (I + 8 - 1) / 8 - 1 by omega, HRq.out]
              have HV : Hid (tmpW 8 I f 0 = bx x0 ∧ tmpW 8 I f 1 = bx x1 ∧ tmpW 8 I f 2 = bx x2 ∧ tmpW 8 I f 3 = bx x3) := by
                have h (j : Nat) : tmpW 8 I f j = bx (f ((I - 1) * 4 + j)) := by unfold tmpW; rw [if_neg hA, if_pos ⟨by decide, hC⟩, Nat.mul_comm]
                exact ⟨by rw [h, HX0.out], by rw [h, HX1.out], by rw [h, HX2.out], by rw [h, HX3.out]⟩
              have e1 : ((I : Int) % 8 == 0) = false := by simp; omega
              have e2 : (((I : Int).tmod 8) == 0) = false := by rw [Int.tmod_eq_emod_of_nonneg (by omega)]; exact e1
              have g1 : ((I : Int) % 8 == 4) = true := by simp; omega
              have g2 : (((I : Int).tmod 8) == 4) = true := by rw [Int.tmod_eq_emod_of_nonneg (by omega)]; exact g1
              go_wp2_with (fail)
              refine wp_region_still_tail 13 (by kernel_rfl) (by kernel_rfl) ?_
              simp only [List.take_succ_cons, List.take_zero, List.drop_succ_cons, List.drop_zero]
              repeat still_step
              try refine wpStill_nil ?_
              change wpList _ _ _ _ _ w2.drew
              clear v0 v1 v2 v3 ix0 ix1 ix2 ix3
              go_wp2_with (fail)
              have HT1 : Hid (R4 ((((w2.setCell ⟨gt, 0, none⟩ (.int .u8 (bx x0 : Nat))).setCell ⟨gt, 1, none⟩ (.int .u8 (bx x1 : Nat))).setCell ⟨gt, 2, none⟩ (.int .u8 (bx x2 : Nat))).setCell ⟨gt, 3, none⟩ (.int .u8 (bx x3 : Nat))).drew gt (tmpW 8 I f)) := R4.congr ((((HT0.out.set 0 _).set 1 _).set 2 _).set 3 _).drew (lt4 HV.out.1.symm HV.out.2.1.symm HV.out.2.2.1.symm HV.out.2.2.2.symm)
              have HO3 : Hid (Own w ((((w2.setCell ⟨gt, 0, none⟩ (.int .u8 (bx x0 : Nat))).setCell ⟨gt, 1, none⟩ (.int .u8 (bx x1 : Nat))).setCell ⟨gt, 2, none⟩ (.int .u8 (bx x2 : Nat))).setCell ⟨gt, 3, none⟩ (.int .u8 (bx x3 : Nat))).drew (some ⟨g, 0, none⟩) c I f) := ((((HO2.out.far HG.out _).far HG.out _).far HG.out _).far HG.out _).drew
              have HB3 : Hid (Below w.heap.size w ((((w2.setCell ⟨gt, 0, none⟩ (.int .u8 (bx x0 : Nat))).setCell ⟨gt, 1, none⟩ (.int .u8 (bx x1 : Nat))).setCell ⟨gt, 2, none⟩ (.int .u8 (bx x2 : Nat))).setCell ⟨gt, 3, none⟩ (.int .u8 (bx x3 : Nat))).drew) := ((((HB2.out.setCell HGw.out _).setCell HGw.out _).setCell HGw.out _).setCell HGw.out _).drew
              clear HT0 HO2 HB2 c0 c1 c2 c3 f0 f1 f2 f3
              generalize ((((w2.setCell ⟨gt, 0, none⟩ (.int .u8 (bx x0 : Nat))).setCell ⟨gt, 1, none⟩ (.int .u8 (bx x1 : Nat))).setCell ⟨gt, 2, none⟩ (.int .u8 (bx x2 : Nat))).setCell ⟨gt, 3, none⟩ (.int .u8 (bx x3 : Nat))).drew = w3 at HT1 HO3 HB3 ⊢
              clear hA hC e1 e2 g1 g2
              go_loopw [9] (fun i wx => ∃ (j : Nat) (T : Nat → Nat), Hid (j ≤ 4) ∧ i = .int .i64 j ∧ Hid (∀ t, T t = if t < j then stepW 8 I f t else tmpW 8 I f t) ∧ Hid (R4 wx gt T) ∧ Hid (Own w wx (some ⟨g, 0, none⟩) c I f) ∧ Hid (Below w.heap.size w wx)) (fun i _ => 4 - (intOf i).toNat)
              case atStart => exact ⟨0, tmpW 8 I f, Nat.zero_le 4, rfl, fun t => by rw [if_neg (Nat.not_lt_zero t)], HT1, HO3, HB3⟩
              case round =>
                clear HT1 HO3 HB3
                obtain ⟨j, T, hj, rfl, hT, HT1, HO3, HB3⟩ := hrel
                by_cases hlt : j < 4
                · have jl : ((j : Int) < 4) = True := eq_true (by omega)
                  have HJ := Lib.hid hlt
                  have HTj : Hid (T j = tmpW 8 I f j) := by have := hT.out j; rwa [if_neg (Nat.lt_irrefl j)] at this
                  have HTl : Hid (T j < 256) := by show T j < 256; rw [HTj.out]; exact tmpW_lt HFl.out j
                  have tc := World.rowIs.cell HT1.out (i := j) hlt
                  have tf := World.rowIs.frozen HT1.out j
                  have oc := HO3.out.cell ((I - 8) * 4 + j) (by omega)
                  have z0 : ((I : Int) - 8).toNat = I - 8 := by omega
                  have z1 : IntKind.i64.wrap ((I : Int) - 8) = (I : Int) - 8 := IntWalk.i64_in _ (by omega)
                  have z2 : (0 : Int) ≤ (I : Int) - 8 := by omega
                  have z4 : (8 : Int) ≤ (I : Int) := by omega
                  have z3 : (I : Int) - 8 < (I : Int) := by omega
                  have wj : wrap64 ((j : Int) + 1) = (j : Int) + 1 := IntWalk.wrap64_in _ (by omega)
                  clear hlt
                  go_wp2_with (fail)
                  refine wp_region_still_tail 14 (by kernel_rfl) (by kernel_rfl) ?_
                  simp only [List.take_succ_cons, List.take_zero, List.drop_succ_cons, List.drop_zero]
                  repeat still_step
                  try refine wpStill_nil ?_
                  change wpList _ _ _ _ _ wr.drew
                  clear z0 z1 z2 z3 z4
                  go_wp2_with (fail)
                  simp only [wj]
                  rw [u8_xor _ _ HTl.out (HFl.out _)]
                  refine ⟨⟨j + 1, fun i => if i = j then T j ^^^ f ((I - 8) * 4 + j) else T i, HJ.out, by go_num, fun t => ?_, (HT1.out.set j _).drew, (HO3.out.far HG.out _).drew, (HB3.out.setCell HGw.out _).drew⟩, meas 4 j HJ.out⟩
                  show (if t = j then _ else T t) = _
                  by_cases h : t = j
                  · subst h
                    rw [if_pos rfl, if_pos (Nat.lt_succ_self _), HTj.out, Nat.mul_comm]; rfl
                  · rw [if_neg h, hT.out t]
                    by_cases h2 : t < j
                    · rw [if_pos h2, if_pos (by omega)]
                    · rw [if_neg h2, if_neg (by omega)]
                · have jl : ((j : Int) < 4) = False := eq_false (by omega)
                  have HT4 : Hid (R4 wr gt (stepW 8 I f)) := HT1.out.congr fun t ht => by rw [hT.out t, if_pos (by have := hj.out; omega)]
                  have c0 : wr.cell? ⟨gt, 0, none⟩ = some (.int .u8 (stepW 8 I f 0 : Nat)) := World.rowIs.cell HT4.out (i := 0) (by decide)
                  have c1 : wr.cell? ⟨gt, 1, none⟩ = some (.int .u8 (stepW 8 I f 1 : Nat)) := World.rowIs.cell HT4.out (i := 1) (by decide)
                  have c2 : wr.cell? ⟨gt, 2, none⟩ = some (.int .u8 (stepW 8 I f 2 : Nat)) := World.rowIs.cell HT4.out (i := 2) (by decide)
                  have c3 : wr.cell? ⟨gt, 3, none⟩ = some (.int .u8 (stepW 8 I f 3 : Nat)) := World.rowIs.cell HT4.out (i := 3) (by decide)
                  clear hlt hT HT1
                  go_wp2_with (at_builtin; refine wpList_append_lies _ rfl _ _ 63 rfl w.heap.size 87 i0 _ 4 4 Tryz.underlying63 HJ0.out HJ1.out HJ2.out HJ3.out rfl (by decide) (.slice (some ⟨g, 0, none⟩) I c) I (cellsF f I) rfl (World.ownsRow.alloc HO3.out _) ⟨wr.heap.size, 0, none⟩ 1 1 _ rfl rfl (four_cells wr _ _ _ _) four_one (by decide) (by unfold maxLen; omega) (by omega) (by have := HB3.out.size; simp; omega) (wr.heap.size + 1) (by simp) ?_)
                  intro g2 cap w4 hown hgrow _ hlt
                  rw [cellsF_succ f (exS 8 key (I + 1 - 8)) I _ _ _ _ (fun t ht => by rw [HFs.out]; exact if_neg (by omega)) (by rw [HFs.out]; exact (if_pos (by omega)).trans (by rw [show 4 * I % 4 = 0 by omega])) (by rw [HFs.out]; exact (if_pos (by omega)).trans (by rw [show (4 * I + 1) % 4 = 1 by omega])) (by rw [HFs.out]; exact (if_pos (by omega)).trans (by rw [show (4 * I + 2) % 4 = 2 by omega])) (by rw [HFs.out]; exact (if_pos (by omega)).trans (by rw [show (4 * I + 3) % 4 = 3 by omega]))] at hown
                  have HO4 : Hid (Own w w4 (some ⟨g2, 0, none⟩) cap (I + 1) (exS 8 key (I + 1 - 8))) := hown
                  have HB4 : Hid (Below w.heap.size w w4) := (HB3.out.alloc HB3.out.size _).grown hgrow (by have := HB3.out.size; simp; omega) (fun k hk => (World.ownsRow.lt HO3.out k hk).1)
                  clear hown hgrow hlt c0 c1 c2 c3
                  go_wp2_with (fail)
                  exact ⟨⟨I + 1, g2, cap, ⟨by omega, HL.out⟩, by go_num, by rw [HR2.out], rfl, HO4, HB4⟩, meas 60 I HL.out⟩
            · have HR2 : Hid (R = rc ((I + 1 + 8 - 1) / 8 - 1)) := by
                show R = _
                rw [show (I + 1 + 8 - 1) / 8 - 1 = (I + 8 - 1) / 8 - 1 by omega, HRq.out]
              have HT1 : Hid (R4 w2 gt (tmpW 8 I f)) := HT0.out.congr fun t _ => by
                unfold tmpW; rw [if_neg hA, if_neg (by omega), Nat.mul_comm]
              have HO3 := HO2
              have HB3 := HB2
              have e1 : ((I : Int) % 8 == 0) = false := by simp; omega
              have e2 : (((I : Int).tmod 8) == 0) = false := by rw [Int.tmod_eq_emod_of_nonneg (by omega)]; exact e1
              have g1 : ((I : Int) % 8 == 4) = false := by simp; omega
              have g2 : (((I : Int).tmod 8) == 4) = false := by rw [Int.tmod_eq_emod_of_nonneg (by omega)]; exact g1
              clear HT0 HO2 HB2 c0 c1 c2 c3 f0 f1 f2 f3 v0 v1 v2 v3 ix0 ix1 ix2 ix3
              go_wp2_with (fail)
              clear hA hC e1 e2 g1 g2
              go_loopw [9] (fun i wx => ∃ (j : Nat) (T : Nat → Nat), Hid (j ≤ 4) ∧ i = .int .i64 j ∧ Hid (∀ t, T t = if t < j then stepW 8 I f t else tmpW 8 I f t) ∧ Hid (R4 wx gt T) ∧ Hid (Own w wx (some ⟨g, 0, none⟩) c I f) ∧ Hid (Below w.heap.size w wx)) (fun i _ => 4 - (intOf i).toNat)
              case atStart => exact ⟨0, tmpW 8 I f, Nat.zero_le 4, rfl, fun t => by rw [if_neg (Nat.not_lt_zero t)], HT1, HO3, HB3⟩
              case round =>
                clear HT1 HO3 HB3
                obtain ⟨j, T, hj, rfl, hT, HT1, HO3, HB3⟩ := hrel
                by_cases hlt : j < 4
                · have jl : ((j : Int) < 4) = True := eq_true (by omega)
                  have HJ := Lib.hid hlt
                  have HTj : Hid (T j = tmpW 8 I f j) := by have := hT.out j; rwa [if_neg (Nat.lt_irrefl j)] at this
                  have HTl : Hid (T j < 256) := by show T j < 256; rw [HTj.out]; exact tmpW_lt HFl.out j
                  have tc := World.rowIs.cell HT1.out (i := j) hlt
                  have tf := World.rowIs.frozen HT1.out j
                  have oc := HO3.out.cell ((I - 8) * 4 + j) (by omega)
                  have z0 : ((I : Int) - 8).toNat = I - 8 := by omega
                  have z1 : IntKind.i64.wrap ((I : Int) - 8) = (I : Int) - 8 := IntWalk.i64_in _ (by omega)
                  have z2 : (0 : Int) ≤ (I : Int) - 8 := by omega
                  have z4 : (8 : Int) ≤ (I : Int) := by omega
                  have z3 : (I : Int) - 8 < (I : Int) := by omega
                  have wj : wrap64 ((j : Int) + 1) = (j : Int) + 1 := IntWalk.wrap64_in _ (by omega)
                  clear hlt
                  go_wp2_with (fail)
                  refine wp_region_still_tail 14 (by kernel_rfl) (by kernel_rfl) ?_
                  simp only [List.take_succ_cons, List.take_zero, List.drop_succ_cons, List.drop_zero]
                  repeat still_step
                  try refine wpStill_nil ?_
                  change wpList _ _ _ _ _ wr.drew
                  clear z0 z1 z2 z3 z4
                  go_wp2_with (fail)
                  simp only [wj]
                  rw [u8_xor _ _ HTl.out (HFl.out _)]
                  refine ⟨⟨j + 1, fun i => if i = j then T j ^^^ f ((I - 8) * 4 + j) else T i, HJ.out, by go_num, fun t => ?_, (HT1.out.set j _).drew, (HO3.out.far HG.out _).drew, (HB3.out.setCell HGw.out _).drew⟩, meas 4 j HJ.out⟩
                  show (if t = j then _ else T t) = _
                  by_cases h : t = j
                  · subst h
                    rw [if_pos rfl, if_pos (Nat.lt_succ_self _), HTj.out, Nat.mul_comm]; rfl
                  · rw [if_neg h, hT.out t]
                    by_cases h2 : t < j
                    · rw [if_pos h2, if_pos (by omega)]
                    · rw [if_neg h2, if_neg (by omega)]
                · have jl : ((j : Int) < 4) = False := eq_false (by omega)
                  have HT4 : Hid (R4 wr gt (stepW 8 I f)) := HT1.out.congr fun t ht => by rw [hT.out t, if_pos (by have := hj.out; omega)]
                  have c0 : wr.cell? ⟨gt, 0, none⟩ = some (.int .u8 (stepW 8 I f 0 : Nat)) := World.rowIs.cell HT4.out (i := 0) (by decide)
                  have c1 : wr.cell? ⟨gt, 1, none⟩ = some (.int .u8 (stepW 8 I f 1 : Nat)) := World.rowIs.cell HT4.out (i := 1) (by decide)
                  have c2 : wr.cell? ⟨gt, 2, none⟩ = some (.int .u8 (stepW 8 I f 2 : Nat)) := World.rowIs.cell HT4.out (i := 2) (by decide)
                  have c3 : wr.cell? ⟨gt, 3, none⟩ = some (.int .u8 (stepW 8 I f 3 : Nat)) := World.rowIs.cell HT4.out (i := 3) (by decide)
                  clear hlt hT HT1
                  go_wp2_with (at_builtin; refine wpList_append_lies _ rfl _ _ 63 rfl w.heap.size 87 i0 _ 4 4 Tryz.underlying63 HJ0.out HJ1.out HJ2.out HJ3.out rfl (by decide) (.slice (some ⟨g, 0, none⟩) I c) I (cellsF f I) rfl (World.ownsRow.alloc HO3.out _) ⟨wr.heap.size, 0, none⟩ 1 1 _ rfl rfl (four_cells wr _ _ _ _) four_one (by decide) (by unfold maxLen; omega) (by omega) (by have := HB3.out.size; simp; omega) (wr.heap.size + 1) (by simp) ?_)
                  intro g2 cap w4 hown hgrow _ hlt
                  rw [cellsF_succ f (exS 8 key (I + 1 - 8)) I _ _ _ _ (fun t ht => by rw [HFs.out]; exact if_neg (by omega)) (by rw [HFs.out]; exact (if_pos (by omega)).trans (by rw [show 4 * I % 4 = 0 by omega])) (by rw [HFs.out]; exact (if_pos (by omega)).trans (by rw [show (4 * I + 1) % 4 = 1 by omega])) (by rw [HFs.out]; exact (if_pos (by omega)).trans (by rw [show (4 * I + 2) % 4 = 2 by omega])) (by rw [HFs.out]; exact (if_pos (by omega)).trans (by rw [show (4 * I + 3) % 4 = 3 by omega]))] at hown
                  have HO4 : Hid (Own w w4 (some ⟨g2, 0, none⟩) cap (I + 1) (exS 8 key (I + 1 - 8))) := hown
                  have HB4 : Hid (Below w.heap.size w w4) := (HB3.out.alloc HB3.out.size _).grown hgrow (by have := HB3.out.size; simp; omega) (fun k hk => (World.ownsRow.lt HO3.out k hk).1)
                  clear hown hgrow hlt c0 c1 c2 c3
                  go_wp2_with (fail)
                  exact ⟨⟨I + 1, g2, cap, ⟨by omega, HL.out⟩, by go_num, by rw [HR2.out], rfl, HO4, HB4⟩, meas 60 I HL.out⟩
        · have il : ((I : Int) < 60) = False := eq_false (by omega)
          obtain ⟨g', hg', hgw, hgx⟩ := HO.out.at_ (by omega)
          injection hg' with hg'
          injection hg' with hg'
          subst hg'
          obtain rfl : I = 60 := by omega
          have HE : Hid (Keys wr g 60 f) := fun t ht => HO.out.cell t ht
          have HW1 := Lib.hid hgw
          have HW2 := Lib.hid hgx
          clear hlt hgw hgx hI1 hI2 hI HFs HRq
          go_wp2_with (fail)
          go_ret
          exact ⟨g, c, rfl, HW1.out, HW2.out, HB.out, HEf.out ▸ HE.out⟩
end Go.Proofs.Aes
