/-
  The developers' poly: a tagger in memory, a block taken in.
-/
import Derived.Test.YtljhenjbjondkaaJobh
import Derived.Test.YtljhenjbjondkaaJobj
import Derived.Test.YtljhenjbjondkaaJobk
import Derived.Test.YtljhenjbjondkaaJoai
namespace Go.Proofs.Pd
open Go.RowKit
open Go.Proofs.Aes (byt byt_lt get_byt)
open Go.Proofs.Pol (lmL lmA lmA_get lmA_congr lmA_one lmA_size lt5 lmV lmV_arr leB leB_lt leB_congr zS zS_size val p130 rN padN)
open Go.Proofs.Im (wpList_box_to wp_region_quiet_tail)
open Go.Proofs.Rt (ready_loadTo ready_callTo ready_storeTo)
/-- Nothing that was there has changed, but block g. -/
structure But (g : Nat) (w w' : World) : Prop where
  os : w'.os = w.os
  tape : w'.tape = w.tape
  output : w'.output = w.output
  size : w.heap.size ≤ w'.heap.size
  block : ∀ k, k < w.heap.size → k ≠ g → w'.heap[k]? = w.heap[k]?
theorem But.refl (g : Nat) (w : World) : But g w w := ⟨rfl, rfl, rfl, Nat.le_refl _, fun _ _ _ => rfl⟩
theorem But.trans {g : Nat} {a b c : World} (h : But g a b) (k : But g b c) : But g a c :=
  ⟨k.os.trans h.os, k.tape.trans h.tape, k.output.trans h.output, Nat.le_trans h.size k.size, fun i hi hg => (k.block i (Nat.lt_of_lt_of_le hi h.size) hg).trans (h.block i hi hg)⟩
theorem But.drew {g : Nat} {w w' : World} (h : But g w w') : But g w w'.drew := ⟨h.os, h.tape, h.output, h.size, h.block⟩
theorem But.drewN {g : Nat} {w w' : World} (h : But g w w') (q : Nat) : But g w (w'.drewN q) := ⟨h.os, h.tape, h.output, h.size, h.block⟩
theorem But.setCell {g : Nat} {w w' : World} (h : But g w w') (i : Nat) (v : Value) : But g w (w'.setCell ⟨g, i, none⟩ v) :=
  h.trans ⟨rfl, rfl, rfl, by simp, fun k _ hk => Below.heap_setCell w' ⟨g, i, none⟩ v k hk⟩
theorem five_cells (w : World) (g o : Nat) (d : Nat → Nat) : w.setCells g o (lmV d) = ((((w.setCell ⟨g, o, none⟩ (.int .u64 (d 0 : Nat))).setCell ⟨g, o + 1, none⟩ (.int .u64 (d 1 : Nat))).setCell ⟨g, o + 2, none⟩ (.int .u64 (d 2 : Nat))).setCell ⟨g, o + 3, none⟩ (.int .u64 (d 3 : Nat))).setCell ⟨g, o + 4, none⟩ (.int .u64 (d 4 : Nat)) := rfl
theorem But.set5 {g : Nat} {w w' : World} (h : But g w w') (o : Nat) (d : Nat → Nat) : But g w (w'.setCells g o (lmV d)) := by
  rw [five_cells]; exact ((((h.setCell _ _).setCell _ _).setCell _ _).setCell _ _).setCell _ _
theorem But.of_below {g : Nat} {w w' : World} (h : Below w.heap.size w w') : But g w w' := ⟨h.os, h.tape, h.output, h.size, fun k hk _ => h.block k hk⟩
theorem But.on {g : Nat} {w u v : World} (h : But g w u) (hb : Below u.heap.size u v) : But g w v := h.trans (But.of_below hb)
theorem But.below {g B : Nat} {w0 w u : World} (h : But g w u) (hb : Below B w0 w) (hB : B ≤ g) (hs : B ≤ w.heap.size) : Below B w0 u :=
  hb.trans ⟨h.os, h.tape, h.output, h.size, fun k hk => h.block k (by omega) (by omega)⟩
/-- A tagger's cells: the factor, the sum, the pad. -/
def tgN (r h : Nat → Nat) (pl ph i : Nat) : Nat := if i < 5 then r i else if i < 10 then h (i - 5) else if i = 10 then pl else ph
def Tc (w : World) (g : Nat) (r h : Nat → Nat) (pl ph : Nat) : Prop := w.rowIs g 87 12 (fun i => .int .u64 (tgN r h pl ph i : Nat))
theorem Tc.lt {w : World} {g : Nat} {r h : Nat → Nat} {pl ph : Nat} (t : Tc w g r h pl ph) : g < w.heap.size := World.rowIs.lt t
theorem Tc.fac {w : World} {g : Nat} {r h : Nat → Nat} {pl ph : Nat} (t : Tc w g r h pl ph) : w.rangeAt g 0 (lmV r) := fun j v hv => by
  have hj : j < 5 := (List.getElem?_eq_some_iff.1 hv).1
  rw [Nat.zero_add, World.rowIs.cell t (i := j) (by omega)]
  have e : tgN r h pl ph j = r j := if_pos hj
  rw [e, ← lmA_get r j hj, ← lmV_arr, List.getElem?_toArray]
  exact hv
theorem Tc.sum {w : World} {g : Nat} {r h : Nat → Nat} {pl ph : Nat} (t : Tc w g r h pl ph) : w.rangeAt g 5 (lmV h) := fun j v hv => by
  have hj : j < 5 := (List.getElem?_eq_some_iff.1 hv).1
  rw [World.rowIs.cell t (i := 5 + j) (by omega)]
  have e : tgN r h pl ph (5 + j) = h j := by unfold tgN; rw [if_neg (by omega), if_pos (by omega)]; congr 1; omega
  rw [e, ← lmA_get h j hj, ← lmV_arr, List.getElem?_toArray]
  exact hv
theorem Tc.low {w : World} {g : Nat} {r h : Nat → Nat} {pl ph : Nat} (t : Tc w g r h pl ph) : w.cell? ⟨g, 10, none⟩ = some (.int .u64 (pl : Nat)) := World.rowIs.cell t (i := 10) (by decide)
theorem Tc.high {w : World} {g : Nat} {r h : Nat → Nat} {pl ph : Nat} (t : Tc w g r h pl ph) : w.cell? ⟨g, 11, none⟩ = some (.int .u64 (ph : Nat)) := World.rowIs.cell t (i := 11) (by decide)
theorem Tc.there {w : World} {g : Nat} {r h : Nat → Nat} {pl ph : Nat} (t : Tc w g r h pl ph) (o n : Nat) (hn : o + n ≤ 12) : w.there g o n := fun j hj => ⟨by rw [World.rowIs.cell t (i := o + j) (by omega)]; rfl, World.rowIs.frozen t _⟩
theorem Tc.on {w u : World} {g : Nat} {r h : Nat → Nat} {pl ph : Nat} (t : Tc w g r h pl ph) (hb : Below w.heap.size w u) : Tc u g r h pl ph := World.rowIs.of_block t (hb.block g t.lt)
theorem Tc.below {w u : World} {g B : Nat} {r h : Nat → Nat} {pl ph : Nat} (t : Tc w g r h pl ph) (hb : Below B w u) (hB : g < B) : Tc u g r h pl ph := World.rowIs.of_block t (hb.block g hB)
theorem Tc.drew {w : World} {g : Nat} {r h : Nat → Nat} {pl ph : Nat} (t : Tc w g r h pl ph) : Tc w.drew g r h pl ph := World.rowIs.drew t
theorem Tc.drewN {w : World} {g : Nat} {r h : Nat → Nat} {pl ph : Nat} (t : Tc w g r h pl ph) (q : Nat) : Tc (w.drewN q) g r h pl ph := t
theorem Tc.setSum {w : World} {g : Nat} {r h : Nat → Nat} {pl ph : Nat} (t : Tc w g r h pl ph) (x : Nat → Nat) : Tc (w.setCells g 5 (lmV x)) g r x pl ph := by
  rw [five_cells]
  refine World.rowIs.congr (World.rowIs.set (World.rowIs.set (World.rowIs.set (World.rowIs.set (World.rowIs.set t 5 _) 6 _) 7 _) 8 _) 9 _) fun i hi => ?_
  unfold tgN
  by_cases h0 : i < 5
  · rw [if_neg (by omega), if_neg (by omega), if_neg (by omega), if_neg (by omega), if_neg (by omega), if_pos h0, if_pos h0]
  · by_cases h5 : i = 5
    · subst h5; rfl
    · by_cases h6 : i = 6
      · subst h6; rfl
      · by_cases h7 : i = 7
        · subst h7; rfl
        · by_cases h8 : i = 8
          · subst h8; rfl
          · by_cases h9 : i = 9
            · subst h9; rfl
            · have h10 : ¬ i < 10 := by omega
              rw [if_neg h9, if_neg h8, if_neg h7, if_neg h6, if_neg h5, if_neg h0, if_neg h0, if_neg h10, if_neg h10]
set_option maxHeartbeats 4000000 in
theorem add_raw (b r h : Nat → Nat) (pl ph g : Nat) (w : World) (H : Tc w g r h pl ph) (hb : ∀ i, b i < 67108864) (hr : ∀ i, r i < 67108864) (hh : ∀ i, h i < 67108928) :
    Calls Try.prog 43 #[.pointer (some ⟨g, 0, none⟩), .agg (lmA b)] w fun e w' => e = .returned (.tuple #[]) ∧ But g w w' ∧ Tc w' g r (mulD (fun i => h i + b i) r) pl ph := by
  have HP : Hid (∀ W, Calls Try.prog 59 #[.agg (lmA h), .agg (lmA b)] W fun e w' => e = .returned (.agg (lmA fun i => h i + b i)) ∧ Below W.heap.size W w') := fun W => plus_any h b W (fun i => Nat.lt_trans (hh i) (by decide)) (fun i => Nat.lt_trans (hb i) (by decide))
  have HT : Hid (∀ W, Calls Try.prog 60 #[.agg (lmA fun i => h i + b i), .agg (lmA r)] W fun e w' => e = .returned (.agg (lmA (mulD (fun i => h i + b i) r))) ∧ Below W.heap.size W w') := fun W => times_any (fun i => h i + b i) r W (fun i => by have h1 := hh i; have h2 := hb i; show h i + b i < _; omega) hr
  generalize mulD (fun i => h i + b i) r = m at HT ⊢
  generalize (fun i => h i + b i) = s at HP HT
  have HS0 : Hid (Tc (w.alloc (.cells (lmA b) 72)).drew g r h pl ph) := (H.on ((Below.refl _ _).alloc (Nat.le_refl _) _)).drew
  have HE0 : Hid (RQ (w.alloc (.cells (lmA b) 72)).drew w.heap.size b) := (RQ.new w b).drewN 1
  have HB0 : Hid (But g w (w.alloc (.cells (lmA b) 72)).drew) := (But.of_below ((Below.refl _ _).alloc (Nat.le_refl _) _)).drew
  clear H hb hr hh
  go_enter Try.func43, Try.ntmps43
  go_upto_region 0 with (fail)
  apply wp_region_lit
  refine wpList_box_to rfl 72 _ rfl (lmA b) rfl w.heap.size rfl ?_
  go_upto_region 1 with (fail)
  refine wp_region_any (by kernel_rfl) ?_
  change wpAny _ _ _ _ _ _ _ (w.alloc (.cells (lmA b) 72)).drew
  generalize (w.alloc (.cells (lmA b) 72)).drew = w1 at HS0 HE0 HB0 ⊢
  refine Lw.take_to (i := 0) (some 4) (.pointer (some ⟨g, 0, none⟩)) rfl rfl (by kernel_rfl) (by kernel_rfl) (by kernel_rfl) (fun _ _ _ h => h) (Or.inl ⟨by rfl, fun w => by go_simp⟩) ?_
  refine Lw.take_to (i := 1) (some 5) (.pointer (some ⟨g, 0, none⟩)) rfl rfl (by kernel_rfl) (by kernel_rfl) (by kernel_rfl) (fun _ _ _ h => h) (Or.inl ⟨by rfl, fun w => by go_simp⟩) ?_
  refine Lw.take_to (i := 2) (some 6) (.pointer (some ⟨g, 0, none⟩)) rfl rfl (by kernel_rfl) (by kernel_rfl) (by kernel_rfl) (fun _ _ _ h => h) (Or.inl ⟨by rfl, fun w => by go_simp⟩) ?_
  refine Lw.take_to (i := 3) (some 7) (.pointer (some ⟨g, 5, none⟩)) rfl rfl (by kernel_rfl) (by kernel_rfl) (by kernel_rfl) (fun _ _ _ h => h) (Or.inl ⟨by rfl, fun w => by go_simp⟩) ?_
  refine Lw.take_to (i := 7) (some 11) (.pointer (some ⟨g, 0, none⟩)) rfl rfl (by kernel_rfl) (by kernel_rfl) (by kernel_rfl) (fun _ _ _ h => h) (Or.inl ⟨by rfl, fun w => by go_simp⟩) ?_
  refine Lw.take_to (i := 8) (some 12) (.pointer (some ⟨g, 0, none⟩)) rfl rfl (by kernel_rfl) (by kernel_rfl) (by kernel_rfl) (fun _ _ _ h => h) (Or.inl ⟨by rfl, fun w => by go_simp⟩) ?_
  refine Lw.take_to (i := 9) (some 13) (.pointer (some ⟨g, 0, none⟩)) rfl rfl (by kernel_rfl) (by kernel_rfl) (by kernel_rfl) (fun _ _ _ h => h) (Or.inl ⟨by rfl, fun w => by go_simp⟩) ?_
  simp only [Act.put, List.setIfInBounds_toArray, List.set_cons_zero, List.set_cons_succ]
  refine wpAny_ready (rs := [4, 5, 10]) (by kernel_rfl) (by simp) ?_
  refine ready_loadTo (some 8) rfl rfl rfl 72 _ rfl g 5 (by kernel_rfl) (lmV h) _ HS0.out.sum Try.underlying72 rfl (by kernel_rfl) ?_ (ready_loadTo (some 9) rfl rfl rfl 72 _ rfl w.heap.size 0 (by kernel_rfl) (lmV b) _ HE0.out.range Try.underlying72 rfl (by kernel_rfl) ?_ (ready_loadTo (some 14) rfl rfl rfl 72 _ rfl g 0 (by kernel_rfl) (lmV r) _ HS0.out.fac Try.underlying72 rfl (by kernel_rfl) ?_ AllReady.nil))
  · simp only [Act.put, List.setIfInBounds_toArray, List.set_cons_zero, List.set_cons_succ]
    refine wpAny_ready (rs := [5, 10]) (by kernel_rfl) (by simp) ?_
    refine ready_loadTo (some 9) rfl rfl rfl 72 _ rfl w.heap.size 0 (by kernel_rfl) (lmV b) _ HE0.out.range Try.underlying72 rfl (by kernel_rfl) ?_ (ready_loadTo (some 14) rfl rfl rfl 72 _ rfl g 0 (by kernel_rfl) (lmV r) _ HS0.out.fac Try.underlying72 rfl (by kernel_rfl) ?_ AllReady.nil)
    · simp only [Act.put, List.setIfInBounds_toArray, List.set_cons_zero, List.set_cons_succ]
      refine wpAny_ready (rs := [6, 10]) (by kernel_rfl) (by simp) ?_
      refine ready_callTo (some 10) rfl rfl rfl 59 _ _ rfl (fun _ _ => by go_simp) #[.agg (lmA h), .agg (lmA b)] (by kernel_rfl) ?_ (ready_loadTo (some 14) rfl rfl rfl 72 _ rfl g 0 (by kernel_rfl) (lmV r) _ HS0.out.fac Try.underlying72 rfl (by kernel_rfl) ?_ AllReady.nil)
      · refine (HP.out _).mono ?_
        rintro e u ⟨rfl, hbu⟩
        refine ⟨_, rfl, ?_⟩
        have HSu := Lib.hid (HS0.out.on hbu)
        have HBu := Lib.hid (HB0.out.on hbu)
        simp only [Act.put, List.setIfInBounds_toArray, List.set_cons_zero, List.set_cons_succ]
        refine wpAny_ready (rs := [10]) (by kernel_rfl) (by simp) ?_
        refine ready_loadTo (some 14) rfl rfl rfl 72 _ rfl g 0 (by kernel_rfl) (lmV r) _ HSu.out.fac Try.underlying72 rfl (by kernel_rfl) ?_ AllReady.nil
        · simp only [Act.put, List.setIfInBounds_toArray, List.set_cons_zero, List.set_cons_succ]
          refine wpAny_ready (rs := [11]) (by kernel_rfl) (by simp) ?_
          refine ready_callTo (some 15) rfl rfl rfl 60 _ _ rfl (fun _ _ => by go_simp) #[.agg (lmA s), .agg (lmA r)] (by kernel_rfl) ?_ AllReady.nil
          · refine (HT.out _).mono ?_
            rintro e v ⟨rfl, hbv⟩
            refine ⟨_, rfl, ?_⟩
            have HSv := Lib.hid (HSu.out.on hbv)
            have HBv := Lib.hid (HBu.out.on hbv)
            simp only [Act.put, List.setIfInBounds_toArray, List.set_cons_zero, List.set_cons_succ]
            refine Lw.take_to (i := 12) (some 16) (.pointer (some ⟨g, 0, none⟩)) rfl rfl (by kernel_rfl) (by kernel_rfl) (by kernel_rfl) (fun _ _ _ h => h) (Or.inl ⟨by rfl, fun w => by go_simp⟩) ?_
            refine Lw.take_to (i := 13) (some 17) (.pointer (some ⟨g, 5, none⟩)) rfl rfl (by kernel_rfl) (by kernel_rfl) (by kernel_rfl) (fun _ _ _ h => h) (Or.inl ⟨by rfl, fun w => by go_simp⟩) ?_
            simp only [Act.put, List.setIfInBounds_toArray, List.set_cons_zero, List.set_cons_succ]
            refine wpAny_ready (rs := [14]) (by kernel_rfl) (by simp) ?_
            refine ready_storeTo rfl rfl rfl 72 _ _ rfl g 5 (lmA m) (by kernel_rfl) (by kernel_rfl) (HSv.out.there 5 5 (by omega)) (by kernel_rfl) (lmA_one _) ?_ AllReady.nil
            · simp only [Act.put]
              refine wpAny_done (by kernel_rfl) ?_ _
              go_wp2_with (fail)
              go_end0
              exact ⟨rfl, HBv.out.set5 5 m, HSv.out.setSum m⟩
      · simp only [Act.put, List.setIfInBounds_toArray, List.set_cons_zero, List.set_cons_succ]
        refine wpAny_ready (rs := [6]) (by kernel_rfl) (by simp) ?_
        refine ready_callTo (some 10) rfl rfl rfl 59 _ _ rfl (fun _ _ => by go_simp) #[.agg (lmA h), .agg (lmA b)] (by kernel_rfl) ?_ AllReady.nil
        · refine (HP.out _).mono ?_
          rintro e u ⟨rfl, hbu⟩
          refine ⟨_, rfl, ?_⟩
          have HSu := Lib.hid (HS0.out.on hbu)
          have HBu := Lib.hid (HB0.out.on hbu)
          simp only [Act.put, List.setIfInBounds_toArray, List.set_cons_zero, List.set_cons_succ]
          refine wpAny_ready (rs := [11]) (by kernel_rfl) (by simp) ?_
          refine ready_callTo (some 15) rfl rfl rfl 60 _ _ rfl (fun _ _ => by go_simp) #[.agg (lmA s), .agg (lmA r)] (by kernel_rfl) ?_ AllReady.nil
          · refine (HT.out _).mono ?_
            rintro e v ⟨rfl, hbv⟩
            refine ⟨_, rfl, ?_⟩
            have HSv := Lib.hid (HSu.out.on hbv)
            have HBv := Lib.hid (HBu.out.on hbv)
            simp only [Act.put, List.setIfInBounds_toArray, List.set_cons_zero, List.set_cons_succ]
            refine Lw.take_to (i := 12) (some 16) (.pointer (some ⟨g, 0, none⟩)) rfl rfl (by kernel_rfl) (by kernel_rfl) (by kernel_rfl) (fun _ _ _ h => h) (Or.inl ⟨by rfl, fun w => by go_simp⟩) ?_
            refine Lw.take_to (i := 13) (some 17) (.pointer (some ⟨g, 5, none⟩)) rfl rfl (by kernel_rfl) (by kernel_rfl) (by kernel_rfl) (fun _ _ _ h => h) (Or.inl ⟨by rfl, fun w => by go_simp⟩) ?_
            simp only [Act.put, List.setIfInBounds_toArray, List.set_cons_zero, List.set_cons_succ]
            refine wpAny_ready (rs := [14]) (by kernel_rfl) (by simp) ?_
            refine ready_storeTo rfl rfl rfl 72 _ _ rfl g 5 (lmA m) (by kernel_rfl) (by kernel_rfl) (HSv.out.there 5 5 (by omega)) (by kernel_rfl) (lmA_one _) ?_ AllReady.nil
            · simp only [Act.put]
              refine wpAny_done (by kernel_rfl) ?_ _
              go_wp2_with (fail)
              go_end0
              exact ⟨rfl, HBv.out.set5 5 m, HSv.out.setSum m⟩
    · simp only [Act.put, List.setIfInBounds_toArray, List.set_cons_zero, List.set_cons_succ]
      refine wpAny_ready (rs := [5]) (by kernel_rfl) (by simp) ?_
      refine ready_loadTo (some 9) rfl rfl rfl 72 _ rfl w.heap.size 0 (by kernel_rfl) (lmV b) _ HE0.out.range Try.underlying72 rfl (by kernel_rfl) ?_ AllReady.nil
      · simp only [Act.put, List.setIfInBounds_toArray, List.set_cons_zero, List.set_cons_succ]
        refine wpAny_ready (rs := [6]) (by kernel_rfl) (by simp) ?_
        refine ready_callTo (some 10) rfl rfl rfl 59 _ _ rfl (fun _ _ => by go_simp) #[.agg (lmA h), .agg (lmA b)] (by kernel_rfl) ?_ AllReady.nil
        · refine (HP.out _).mono ?_
          rintro e u ⟨rfl, hbu⟩
          refine ⟨_, rfl, ?_⟩
          have HSu := Lib.hid (HS0.out.on hbu)
          have HBu := Lib.hid (HB0.out.on hbu)
          simp only [Act.put, List.setIfInBounds_toArray, List.set_cons_zero, List.set_cons_succ]
          refine wpAny_ready (rs := [11]) (by kernel_rfl) (by simp) ?_
          refine ready_callTo (some 15) rfl rfl rfl 60 _ _ rfl (fun _ _ => by go_simp) #[.agg (lmA s), .agg (lmA r)] (by kernel_rfl) ?_ AllReady.nil
          · refine (HT.out _).mono ?_
            rintro e v ⟨rfl, hbv⟩
            refine ⟨_, rfl, ?_⟩
            have HSv := Lib.hid (HSu.out.on hbv)
            have HBv := Lib.hid (HBu.out.on hbv)
            simp only [Act.put, List.setIfInBounds_toArray, List.set_cons_zero, List.set_cons_succ]
            refine Lw.take_to (i := 12) (some 16) (.pointer (some ⟨g, 0, none⟩)) rfl rfl (by kernel_rfl) (by kernel_rfl) (by kernel_rfl) (fun _ _ _ h => h) (Or.inl ⟨by rfl, fun w => by go_simp⟩) ?_
            refine Lw.take_to (i := 13) (some 17) (.pointer (some ⟨g, 5, none⟩)) rfl rfl (by kernel_rfl) (by kernel_rfl) (by kernel_rfl) (fun _ _ _ h => h) (Or.inl ⟨by rfl, fun w => by go_simp⟩) ?_
            simp only [Act.put, List.setIfInBounds_toArray, List.set_cons_zero, List.set_cons_succ]
            refine wpAny_ready (rs := [14]) (by kernel_rfl) (by simp) ?_
            refine ready_storeTo rfl rfl rfl 72 _ _ rfl g 5 (lmA m) (by kernel_rfl) (by kernel_rfl) (HSv.out.there 5 5 (by omega)) (by kernel_rfl) (lmA_one _) ?_ AllReady.nil
            · simp only [Act.put]
              refine wpAny_done (by kernel_rfl) ?_ _
              go_wp2_with (fail)
              go_end0
              exact ⟨rfl, HBv.out.set5 5 m, HSv.out.setSum m⟩
  · simp only [Act.put, List.setIfInBounds_toArray, List.set_cons_zero, List.set_cons_succ]
    refine wpAny_ready (rs := [4, 10]) (by kernel_rfl) (by simp) ?_
    refine ready_loadTo (some 8) rfl rfl rfl 72 _ rfl g 5 (by kernel_rfl) (lmV h) _ HS0.out.sum Try.underlying72 rfl (by kernel_rfl) ?_ (ready_loadTo (some 14) rfl rfl rfl 72 _ rfl g 0 (by kernel_rfl) (lmV r) _ HS0.out.fac Try.underlying72 rfl (by kernel_rfl) ?_ AllReady.nil)
    · simp only [Act.put, List.setIfInBounds_toArray, List.set_cons_zero, List.set_cons_succ]
      refine wpAny_ready (rs := [6, 10]) (by kernel_rfl) (by simp) ?_
      refine ready_callTo (some 10) rfl rfl rfl 59 _ _ rfl (fun _ _ => by go_simp) #[.agg (lmA h), .agg (lmA b)] (by kernel_rfl) ?_ (ready_loadTo (some 14) rfl rfl rfl 72 _ rfl g 0 (by kernel_rfl) (lmV r) _ HS0.out.fac Try.underlying72 rfl (by kernel_rfl) ?_ AllReady.nil)
      · refine (HP.out _).mono ?_
        rintro e u ⟨rfl, hbu⟩
        refine ⟨_, rfl, ?_⟩
        have HSu := Lib.hid (HS0.out.on hbu)
        have HBu := Lib.hid (HB0.out.on hbu)
        simp only [Act.put, List.setIfInBounds_toArray, List.set_cons_zero, List.set_cons_succ]
        refine wpAny_ready (rs := [10]) (by kernel_rfl) (by simp) ?_
        refine ready_loadTo (some 14) rfl rfl rfl 72 _ rfl g 0 (by kernel_rfl) (lmV r) _ HSu.out.fac Try.underlying72 rfl (by kernel_rfl) ?_ AllReady.nil
        · simp only [Act.put, List.setIfInBounds_toArray, List.set_cons_zero, List.set_cons_succ]
          refine wpAny_ready (rs := [11]) (by kernel_rfl) (by simp) ?_
          refine ready_callTo (some 15) rfl rfl rfl 60 _ _ rfl (fun _ _ => by go_simp) #[.agg (lmA s), .agg (lmA r)] (by kernel_rfl) ?_ AllReady.nil
          · refine (HT.out _).mono ?_
            rintro e v ⟨rfl, hbv⟩
            refine ⟨_, rfl, ?_⟩
            have HSv := Lib.hid (HSu.out.on hbv)
            have HBv := Lib.hid (HBu.out.on hbv)
            simp only [Act.put, List.setIfInBounds_toArray, List.set_cons_zero, List.set_cons_succ]
            refine Lw.take_to (i := 12) (some 16) (.pointer (some ⟨g, 0, none⟩)) rfl rfl (by kernel_rfl) (by kernel_rfl) (by kernel_rfl) (fun _ _ _ h => h) (Or.inl ⟨by rfl, fun w => by go_simp⟩) ?_
            refine Lw.take_to (i := 13) (some 17) (.pointer (some ⟨g, 5, none⟩)) rfl rfl (by kernel_rfl) (by kernel_rfl) (by kernel_rfl) (fun _ _ _ h => h) (Or.inl ⟨by rfl, fun w => by go_simp⟩) ?_
            simp only [Act.put, List.setIfInBounds_toArray, List.set_cons_zero, List.set_cons_succ]
            refine wpAny_ready (rs := [14]) (by kernel_rfl) (by simp) ?_
            refine ready_storeTo rfl rfl rfl 72 _ _ rfl g 5 (lmA m) (by kernel_rfl) (by kernel_rfl) (HSv.out.there 5 5 (by omega)) (by kernel_rfl) (lmA_one _) ?_ AllReady.nil
            · simp only [Act.put]
              refine wpAny_done (by kernel_rfl) ?_ _
              go_wp2_with (fail)
              go_end0
              exact ⟨rfl, HBv.out.set5 5 m, HSv.out.setSum m⟩
      · simp only [Act.put, List.setIfInBounds_toArray, List.set_cons_zero, List.set_cons_succ]
        refine wpAny_ready (rs := [6]) (by kernel_rfl) (by simp) ?_
        refine ready_callTo (some 10) rfl rfl rfl 59 _ _ rfl (fun _ _ => by go_simp) #[.agg (lmA h), .agg (lmA b)] (by kernel_rfl) ?_ AllReady.nil
        · refine (HP.out _).mono ?_
          rintro e u ⟨rfl, hbu⟩
          refine ⟨_, rfl, ?_⟩
          have HSu := Lib.hid (HS0.out.on hbu)
          have HBu := Lib.hid (HB0.out.on hbu)
          simp only [Act.put, List.setIfInBounds_toArray, List.set_cons_zero, List.set_cons_succ]
          refine wpAny_ready (rs := [11]) (by kernel_rfl) (by simp) ?_
          refine ready_callTo (some 15) rfl rfl rfl 60 _ _ rfl (fun _ _ => by go_simp) #[.agg (lmA s), .agg (lmA r)] (by kernel_rfl) ?_ AllReady.nil
          · refine (HT.out _).mono ?_
            rintro e v ⟨rfl, hbv⟩
            refine ⟨_, rfl, ?_⟩
            have HSv := Lib.hid (HSu.out.on hbv)
            have HBv := Lib.hid (HBu.out.on hbv)
            simp only [Act.put, List.setIfInBounds_toArray, List.set_cons_zero, List.set_cons_succ]
            refine Lw.take_to (i := 12) (some 16) (.pointer (some ⟨g, 0, none⟩)) rfl rfl (by kernel_rfl) (by kernel_rfl) (by kernel_rfl) (fun _ _ _ h => h) (Or.inl ⟨by rfl, fun w => by go_simp⟩) ?_
            refine Lw.take_to (i := 13) (some 17) (.pointer (some ⟨g, 5, none⟩)) rfl rfl (by kernel_rfl) (by kernel_rfl) (by kernel_rfl) (fun _ _ _ h => h) (Or.inl ⟨by rfl, fun w => by go_simp⟩) ?_
            simp only [Act.put, List.setIfInBounds_toArray, List.set_cons_zero, List.set_cons_succ]
            refine wpAny_ready (rs := [14]) (by kernel_rfl) (by simp) ?_
            refine ready_storeTo rfl rfl rfl 72 _ _ rfl g 5 (lmA m) (by kernel_rfl) (by kernel_rfl) (HSv.out.there 5 5 (by omega)) (by kernel_rfl) (lmA_one _) ?_ AllReady.nil
            · simp only [Act.put]
              refine wpAny_done (by kernel_rfl) ?_ _
              go_wp2_with (fail)
              go_end0
              exact ⟨rfl, HBv.out.set5 5 m, HSv.out.setSum m⟩
    · simp only [Act.put, List.setIfInBounds_toArray, List.set_cons_zero, List.set_cons_succ]
      refine wpAny_ready (rs := [4]) (by kernel_rfl) (by simp) ?_
      refine ready_loadTo (some 8) rfl rfl rfl 72 _ rfl g 5 (by kernel_rfl) (lmV h) _ HS0.out.sum Try.underlying72 rfl (by kernel_rfl) ?_ AllReady.nil
      · simp only [Act.put, List.setIfInBounds_toArray, List.set_cons_zero, List.set_cons_succ]
        refine wpAny_ready (rs := [6]) (by kernel_rfl) (by simp) ?_
        refine ready_callTo (some 10) rfl rfl rfl 59 _ _ rfl (fun _ _ => by go_simp) #[.agg (lmA h), .agg (lmA b)] (by kernel_rfl) ?_ AllReady.nil
        · refine (HP.out _).mono ?_
          rintro e u ⟨rfl, hbu⟩
          refine ⟨_, rfl, ?_⟩
          have HSu := Lib.hid (HS0.out.on hbu)
          have HBu := Lib.hid (HB0.out.on hbu)
          simp only [Act.put, List.setIfInBounds_toArray, List.set_cons_zero, List.set_cons_succ]
          refine wpAny_ready (rs := [11]) (by kernel_rfl) (by simp) ?_
          refine ready_callTo (some 15) rfl rfl rfl 60 _ _ rfl (fun _ _ => by go_simp) #[.agg (lmA s), .agg (lmA r)] (by kernel_rfl) ?_ AllReady.nil
          · refine (HT.out _).mono ?_
            rintro e v ⟨rfl, hbv⟩
            refine ⟨_, rfl, ?_⟩
            have HSv := Lib.hid (HSu.out.on hbv)
            have HBv := Lib.hid (HBu.out.on hbv)
            simp only [Act.put, List.setIfInBounds_toArray, List.set_cons_zero, List.set_cons_succ]
            refine Lw.take_to (i := 12) (some 16) (.pointer (some ⟨g, 0, none⟩)) rfl rfl (by kernel_rfl) (by kernel_rfl) (by kernel_rfl) (fun _ _ _ h => h) (Or.inl ⟨by rfl, fun w => by go_simp⟩) ?_
            refine Lw.take_to (i := 13) (some 17) (.pointer (some ⟨g, 5, none⟩)) rfl rfl (by kernel_rfl) (by kernel_rfl) (by kernel_rfl) (fun _ _ _ h => h) (Or.inl ⟨by rfl, fun w => by go_simp⟩) ?_
            simp only [Act.put, List.setIfInBounds_toArray, List.set_cons_zero, List.set_cons_succ]
            refine wpAny_ready (rs := [14]) (by kernel_rfl) (by simp) ?_
            refine ready_storeTo rfl rfl rfl 72 _ _ rfl g 5 (lmA m) (by kernel_rfl) (by kernel_rfl) (HSv.out.there 5 5 (by omega)) (by kernel_rfl) (lmA_one _) ?_ AllReady.nil
            · simp only [Act.put]
              refine wpAny_done (by kernel_rfl) ?_ _
              go_wp2_with (fail)
              go_end0
              exact ⟨rfl, HBv.out.set5 5 m, HSv.out.setSum m⟩
  · simp only [Act.put, List.setIfInBounds_toArray, List.set_cons_zero, List.set_cons_succ]
    refine wpAny_ready (rs := [4, 5]) (by kernel_rfl) (by simp) ?_
    refine ready_loadTo (some 8) rfl rfl rfl 72 _ rfl g 5 (by kernel_rfl) (lmV h) _ HS0.out.sum Try.underlying72 rfl (by kernel_rfl) ?_ (ready_loadTo (some 9) rfl rfl rfl 72 _ rfl w.heap.size 0 (by kernel_rfl) (lmV b) _ HE0.out.range Try.underlying72 rfl (by kernel_rfl) ?_ AllReady.nil)
    · simp only [Act.put, List.setIfInBounds_toArray, List.set_cons_zero, List.set_cons_succ]
      refine wpAny_ready (rs := [5]) (by kernel_rfl) (by simp) ?_
      refine ready_loadTo (some 9) rfl rfl rfl 72 _ rfl w.heap.size 0 (by kernel_rfl) (lmV b) _ HE0.out.range Try.underlying72 rfl (by kernel_rfl) ?_ AllReady.nil
      · simp only [Act.put, List.setIfInBounds_toArray, List.set_cons_zero, List.set_cons_succ]
        refine wpAny_ready (rs := [6]) (by kernel_rfl) (by simp) ?_
        refine ready_callTo (some 10) rfl rfl rfl 59 _ _ rfl (fun _ _ => by go_simp) #[.agg (lmA h), .agg (lmA b)] (by kernel_rfl) ?_ AllReady.nil
        · refine (HP.out _).mono ?_
          rintro e u ⟨rfl, hbu⟩
          refine ⟨_, rfl, ?_⟩
          have HSu := Lib.hid (HS0.out.on hbu)
          have HBu := Lib.hid (HB0.out.on hbu)
          simp only [Act.put, List.setIfInBounds_toArray, List.set_cons_zero, List.set_cons_succ]
          refine wpAny_ready (rs := [11]) (by kernel_rfl) (by simp) ?_
          refine ready_callTo (some 15) rfl rfl rfl 60 _ _ rfl (fun _ _ => by go_simp) #[.agg (lmA s), .agg (lmA r)] (by kernel_rfl) ?_ AllReady.nil
          · refine (HT.out _).mono ?_
            rintro e v ⟨rfl, hbv⟩
            refine ⟨_, rfl, ?_⟩
            have HSv := Lib.hid (HSu.out.on hbv)
            have HBv := Lib.hid (HBu.out.on hbv)
            simp only [Act.put, List.setIfInBounds_toArray, List.set_cons_zero, List.set_cons_succ]
            refine Lw.take_to (i := 12) (some 16) (.pointer (some ⟨g, 0, none⟩)) rfl rfl (by kernel_rfl) (by kernel_rfl) (by kernel_rfl) (fun _ _ _ h => h) (Or.inl ⟨by rfl, fun w => by go_simp⟩) ?_
            refine Lw.take_to (i := 13) (some 17) (.pointer (some ⟨g, 5, none⟩)) rfl rfl (by kernel_rfl) (by kernel_rfl) (by kernel_rfl) (fun _ _ _ h => h) (Or.inl ⟨by rfl, fun w => by go_simp⟩) ?_
            simp only [Act.put, List.setIfInBounds_toArray, List.set_cons_zero, List.set_cons_succ]
            refine wpAny_ready (rs := [14]) (by kernel_rfl) (by simp) ?_
            refine ready_storeTo rfl rfl rfl 72 _ _ rfl g 5 (lmA m) (by kernel_rfl) (by kernel_rfl) (HSv.out.there 5 5 (by omega)) (by kernel_rfl) (lmA_one _) ?_ AllReady.nil
            · simp only [Act.put]
              refine wpAny_done (by kernel_rfl) ?_ _
              go_wp2_with (fail)
              go_end0
              exact ⟨rfl, HBv.out.set5 5 m, HSv.out.setSum m⟩
    · simp only [Act.put, List.setIfInBounds_toArray, List.set_cons_zero, List.set_cons_succ]
      refine wpAny_ready (rs := [4]) (by kernel_rfl) (by simp) ?_
      refine ready_loadTo (some 8) rfl rfl rfl 72 _ rfl g 5 (by kernel_rfl) (lmV h) _ HS0.out.sum Try.underlying72 rfl (by kernel_rfl) ?_ AllReady.nil
      · simp only [Act.put, List.setIfInBounds_toArray, List.set_cons_zero, List.set_cons_succ]
        refine wpAny_ready (rs := [6]) (by kernel_rfl) (by simp) ?_
        refine ready_callTo (some 10) rfl rfl rfl 59 _ _ rfl (fun _ _ => by go_simp) #[.agg (lmA h), .agg (lmA b)] (by kernel_rfl) ?_ AllReady.nil
        · refine (HP.out _).mono ?_
          rintro e u ⟨rfl, hbu⟩
          refine ⟨_, rfl, ?_⟩
          have HSu := Lib.hid (HS0.out.on hbu)
          have HBu := Lib.hid (HB0.out.on hbu)
          simp only [Act.put, List.setIfInBounds_toArray, List.set_cons_zero, List.set_cons_succ]
          refine wpAny_ready (rs := [11]) (by kernel_rfl) (by simp) ?_
          refine ready_callTo (some 15) rfl rfl rfl 60 _ _ rfl (fun _ _ => by go_simp) #[.agg (lmA s), .agg (lmA r)] (by kernel_rfl) ?_ AllReady.nil
          · refine (HT.out _).mono ?_
            rintro e v ⟨rfl, hbv⟩
            refine ⟨_, rfl, ?_⟩
            have HSv := Lib.hid (HSu.out.on hbv)
            have HBv := Lib.hid (HBu.out.on hbv)
            simp only [Act.put, List.setIfInBounds_toArray, List.set_cons_zero, List.set_cons_succ]
            refine Lw.take_to (i := 12) (some 16) (.pointer (some ⟨g, 0, none⟩)) rfl rfl (by kernel_rfl) (by kernel_rfl) (by kernel_rfl) (fun _ _ _ h => h) (Or.inl ⟨by rfl, fun w => by go_simp⟩) ?_
            refine Lw.take_to (i := 13) (some 17) (.pointer (some ⟨g, 5, none⟩)) rfl rfl (by kernel_rfl) (by kernel_rfl) (by kernel_rfl) (fun _ _ _ h => h) (Or.inl ⟨by rfl, fun w => by go_simp⟩) ?_
            simp only [Act.put, List.setIfInBounds_toArray, List.set_cons_zero, List.set_cons_succ]
            refine wpAny_ready (rs := [14]) (by kernel_rfl) (by simp) ?_
            refine ready_storeTo rfl rfl rfl 72 _ _ rfl g 5 (lmA m) (by kernel_rfl) (by kernel_rfl) (HSv.out.there 5 5 (by omega)) (by kernel_rfl) (lmA_one _) ?_ AllReady.nil
            · simp only [Act.put]
              refine wpAny_done (by kernel_rfl) ?_ _
              go_wp2_with (fail)
              go_end0
              exact ⟨rfl, HBv.out.set5 5 m, HSv.out.setSum m⟩
/-- A tagger of a key behind blocks whose sum is A. -/
def Ta (w : World) (g : Nat) (key : ByteArray) (A : Nat) : Prop := ∃ h, Good h ∧ val h % p130 = A ∧ Tc w g (facL key) h (padW key 0) (padW key 8)
theorem Ta.lt {w : World} {g : Nat} {key : ByteArray} {A : Nat} (t : Ta w g key A) : g < w.heap.size := by obtain ⟨_, _, _, h⟩ := t; exact h.lt
theorem Ta.on {w u : World} {g : Nat} {key : ByteArray} {A : Nat} (t : Ta w g key A) (hb : Below w.heap.size w u) : Ta u g key A := by obtain ⟨x, h1, h2, h⟩ := t; exact ⟨x, h1, h2, h.on hb⟩
theorem Ta.drew {w : World} {g : Nat} {key : ByteArray} {A : Nat} (t : Ta w g key A) : Ta w.drew g key A := by obtain ⟨x, h1, h2, h⟩ := t; exact ⟨x, h1, h2, h.drew⟩
theorem Ta.drewN {w : World} {g : Nat} {key : ByteArray} {A : Nat} (t : Ta w g key A) (q : Nat) : Ta (w.drewN q) g key A := t
theorem add_any (b : Nat → Nat) (x g A : Nat) (key : ByteArray) (w : World) (H : Ta w g key A) (hb : ∀ i, b i < 67108864) (hx : val b = x) :
    Calls Try.prog 43 #[.pointer (some ⟨g, 0, none⟩), .agg (lmA b)] w fun e w' => e = .returned (.tuple #[]) ∧ But g w w' ∧ Ta w' g key ((A + x) * rN key % p130) := by
  obtain ⟨h, h1, h2, h3⟩ := H
  refine (add_raw b (facL key) h (padW key 0) (padW key 8) g w h3 hb (facL_lt key) h1.all).mono ?_
  rintro e u ⟨he, hbu, ht⟩
  exact ⟨he, hbu, _, mulD_good (fun i => by have := h1.all i; have := hb i; show h i + b i < _; omega) (facL_lt key), round_mod h2 hx (facL_val key), ht⟩
end Go.Proofs.Pd
