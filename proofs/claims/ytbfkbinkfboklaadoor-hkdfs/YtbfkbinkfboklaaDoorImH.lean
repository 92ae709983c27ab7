/-
  The developers' Hash: mix.
-/
import Derived.Test.YtbfkbinkfboklaaDoorImG
import Derived.Test.YtbfkbinkfboklaaDoorImR
namespace Go.Proofs.Im
open Go.RowKit Go.Proofs.Sha
/-- The state's words as a list. -/
def stL (st : Nat → Nat) : List Nat := [st 0, st 1, st 2, st 3, st 4, st 5, st 6, st 7]
/-- The buffer's bytes as cells. -/
def bufC (buf : Nat → Nat) : List Value := (List.range 128).map fun i => .int .u8 (buf i : Nat)
theorem bufC_length (buf : Nat → Nat) : (bufC buf).length = 128 := by simp [bufC]
theorem bufC_get (buf : Nat → Nat) (i : Nat) (hi : i < 128) : (bufC buf)[i]? = some (.int .u8 (buf i : Nat)) := by
  simp [bufC, hi]
theorem bufC_range {w : World} {g : Nat} {bits : Int} {st buf : Nat → Nat} {len : Nat} (h : IsH w g bits st buf len) : w.rangeAt g 9 (bufC buf) := fun j v hv => by
  have hj : j < 128 := by
    have := (List.getElem?_eq_some_iff.1 hv).1
    rwa [bufC_length] at this
  rw [bufC_get buf j hj] at hv
  rw [h.buf j hj, ← hv]
def stC (st : Nat → Nat) : List Value := [.int .u64 (st 0 : Nat), .int .u64 (st 1 : Nat), .int .u64 (st 2 : Nat), .int .u64 (st 3 : Nat), .int .u64 (st 4 : Nat), .int .u64 (st 5 : Nat), .int .u64 (st 6 : Nat), .int .u64 (st 7 : Nat)]
theorem stC_get (st : Nat → Nat) (i : Nat) (hi : i < 8) : (stC st)[i]? = some (.int .u64 (st i : Nat)) :=
  Sha.lt8 (P := fun i => (stC st)[i]? = some (.int .u64 (st i : Nat))) rfl rfl rfl rfl rfl rfl rfl rfl i hi
theorem stC_range {w : World} {g : Nat} {bits : Int} {st buf : Nat → Nat} {len : Nat} (h : IsH w g bits st buf len) : w.rangeAt g 1 (stC st) := fun j v hv => by
  have hj : j < 8 := (List.getElem?_eq_some_iff.1 hv).1
  rw [stC_get st j hj] at hv
  rw [h.st j hj, ← hv]
theorem load_st {w : World} {g : Nat} {bits : Int} {st buf : Nat → Nat} {len : Nat} (h : IsH w g bits st buf len) : (Instr.loadAt 68 (.pointer (some ⟨g, 1, none⟩))).run Tryd.prog w = .ok (.agg (stC st).toArray) w :=
  run_loadAt_mid w g 1 68 (stC st) _ (stC_range h) Tryd.underlying68 rfl (by kernel_rfl)
theorem load_buf {w : World} {g : Nat} {bits : Int} {st buf : Nat → Nat} {len : Nat} (h : IsH w g bits st buf len) : (Instr.loadAt 71 (.pointer (some ⟨g, 9, none⟩))).run Tryd.prog w = .ok (.agg (bufC buf).toArray) w :=
  run_loadAt_mid w g 9 71 (bufC buf) _ (bufC_range h) Tryd.underlying71 rfl (by rw [bufC_length]; kernel_rfl)
theorem loadFrom_buf {w : World} {g : Nat} {bits : Int} {st buf : Nat → Nat} {len : Nat} (h : IsH w g bits st buf len) : (loadCellsFrom ⟨g, 9, none⟩ 0 128 #[]).run Tryd.prog w = .ok (bufC buf).toArray w := by
  have := run_loadCells_list (P := Tryd.prog) w ⟨g, 9, none⟩ (bufC buf) (fun j v hv => by rw [Addr.add_mid]; exact bufC_range h j v hv)
  rw [bufC_length] at this
  exact this
theorem IsH.below {w u : World} {g B : Nat} {bits : Int} {st buf : Nat → Nat} {len : Nat} (h : IsH w g bits st buf len) (hb : Below B w u) (hB : g < B) : IsH u g bits st buf len := World.rowIs.of_block h (hb.block g hB)
/-- Eight words into the state. -/
theorem IsH.setSt {w : World} {g : Nat} {bits : Int} {st buf : Nat → Nat} {len : Nat} (h : IsH w g bits st buf len) (x : Nat → Nat) : IsH (w.setCells g 1 (stC x)) g bits x buf len := by
  refine World.rowIs.congr (rowIs_setCells (stC x) 1 w _ h) fun i hi => ?_
  by_cases h1 : 1 ≤ i ∧ i < 1 + (stC x).length
  · have h2 : i < 9 := h1.2
    rw [if_pos h1, List.getD_eq_getElem?_getD, stC_get x (i - 1) (by omega)]
    unfold hCell
    rw [if_neg (by omega), if_pos h2]; rfl
  · rw [if_neg h1]
    have h2 : ¬ (1 ≤ i ∧ i < 9) := h1
    unfold hCell
    by_cases h0 : i = 0
    · rw [if_pos h0, if_pos h0]
    · rw [if_neg h0, if_neg h0, if_neg (by omega : ¬ i < 9), if_neg (by omega : ¬ i < 9)]
theorem lt8n {P : Nat → Prop} {x : Nat → Nat} (h : P (x 0) ∧ P (x 1) ∧ P (x 2) ∧ P (x 3) ∧ P (x 4) ∧ P (x 5) ∧ P (x 6) ∧ P (x 7)) (i : Nat) (hi : i < 8) : P (x i) := by
  obtain ⟨h0, h1, h2, h3, h4, h5, h6, h7⟩ := h
  exact Sha.lt8 (P := fun i => P (x i)) h0 h1 h2 h3 h4 h5 h6 h7 i hi
set_option maxHeartbeats 2000000 in
theorem hmix_256 (s : ByteArray) (g : Nat) (st buf : Nat → Nat) (len : Nat) (w : World) (h : IsH w g 256 st buf len) (hT : Tab w) (hb : ∀ i, buf i < 256) (hs : ∀ i, i < 64 → buf i = Sha.byt s i) (hl : ∀ i, i < 8 → st i < 4294967296) :
    Calls Tryd.prog 52 #[.pointer (some ⟨g, 0, none⟩)] w fun e w' => e = .returned (.tuple #[]) ∧ But g w w' ∧ ∃ st', IsH w' g 256 st' buf len ∧ stL st' = Sha.blk s (stL st) ∧ ∀ i, i < 8 → st' i < 4294967296 := by
  have HH : Hid (IsH w.drew g 256 st buf len) := h.drew
  have HT : Hid (Tab w.drew) := hT
  have HB := Lib.hid hb
  have HS := Lib.hid hs
  have HL : Hid (Sha.Lt32 (st 0) (st 1) (st 2) (st 3) (st 4) (st 5) (st 6) (st 7)) := ⟨hl 0 (by omega), hl 1 (by omega), hl 2 (by omega), hl 3 (by omega), hl 4 (by omega), hl 5 (by omega), hl 6 (by omega), hl 7 (by omega)⟩
  have c0 := h.bits
  have HR1 : Hid (w.drew.rangeAt g 1 (stC st)) := stC_range h.drew
  have HR2 : Hid (w.drew.rangeAt g 9 (bufC buf)) := bufC_range h.drew
  have HQ : Hid ((Tryd.prog.info? 71).map (·.size) = some (bufC buf).length) := by show _ = _; rw [bufC_length]; kernel_rfl
  clear h hT hb hs hl
  go_enter Tryd.func52, Tryd.ntmps52
  go_wp2_with (fail)
  refine wp_region_any (by kernel_rfl) ?_
  change wpAny _ _ _ _ _ _ _ w.drew
  refine wpAny_take (i := 0) (v := .pointer (some ⟨g, 0, none⟩)) rfl (by kernel_rfl) (by kernel_rfl) (by kernel_rfl) (fun _ _ _ h => h) (Or.inl ⟨by rfl, fun w => by go_simp⟩) ?_
  refine wpAny_take (i := 1) (v := .pointer (some ⟨g, 0, none⟩)) rfl (by kernel_rfl) (by kernel_rfl) (by kernel_rfl) (fun _ _ _ h => h) (Or.inl ⟨by rfl, fun w => by go_simp⟩) ?_
  refine wpAny_take (i := 2) (v := .pointer (some ⟨g, 0, none⟩)) rfl (by kernel_rfl) (by kernel_rfl) (by kernel_rfl) (fun _ _ _ h => h) (Or.inl ⟨by rfl, fun w => by go_simp⟩) ?_
  refine wpAny_take (i := 3) (v := .pointer (some ⟨g, 1, none⟩)) rfl (by kernel_rfl) (by kernel_rfl) (by kernel_rfl) (fun _ _ _ h => h) (Or.inl ⟨by rfl, fun w => by go_simp⟩) ?_
  refine wpAny_take (i := 5) (v := .pointer (some ⟨g, 0, none⟩)) rfl (by kernel_rfl) (by kernel_rfl) (by kernel_rfl) (fun _ _ _ h => h) (Or.inl ⟨by rfl, fun w => by go_simp⟩) ?_
  refine wpAny_take (i := 6) (v := .pointer (some ⟨g, 0, none⟩)) rfl (by kernel_rfl) (by kernel_rfl) (by kernel_rfl) (fun _ _ _ h => h) (Or.inl ⟨by rfl, fun w => by go_simp⟩) ?_
  refine wpAny_take (i := 7) (v := .pointer (some ⟨g, 9, none⟩)) rfl (by kernel_rfl) (by kernel_rfl) (by kernel_rfl) (fun _ _ _ h => h) (Or.inl ⟨by rfl, fun w => by go_simp⟩) ?_
  simp only [Act.put, List.setIfInBounds_toArray]
  refine wpAny_ready (rs := [4, 8]) (by kernel_rfl) (by simp) ?_
  refine ready_load rfl rfl 68 _ rfl g 1 (by kernel_rfl) (stC st) _ HR1.out Tryd.underlying68 rfl (by kernel_rfl) ?_ ?_
  · refine wpAny_ready (rs := [8]) (by kernel_rfl) (by simp) ?_
    refine ready_load rfl rfl 71 _ rfl g 9 (by kernel_rfl) (bufC buf) _ HR2.out Tryd.underlying71 rfl HQ.out ?_ AllReady.nil
    simp only [Act.put]
    refine wpAny_ready (rs := [9]) (by kernel_rfl) (by simp) ?_
    refine ready_call rfl rfl 54 _ _ rfl (fun _ _ => by go_simp) #[.agg #[.int .u64 (st 0 : Nat), .int .u64 (st 1 : Nat), .int .u64 (st 2 : Nat), .int .u64 (st 3 : Nat), .int .u64 (st 4 : Nat), .int .u64 (st 5 : Nat), .int .u64 (st 6 : Nat), .int .u64 (st 7 : Nat)], .agg (bufC buf).toArray] (by kernel_rfl) ?_ AllReady.nil
    refine (mix256_any s buf (bufC buf).toArray (st 0) (st 1) (st 2) (st 3) (st 4) (st 5) (st 6) (st 7) _ (bufC_length buf) (fun i hi => (List.getElem?_toArray (xs := bufC buf) (i := i)).trans (bufC_get buf i hi)) HB.out HS.out HL.out HT.out).mono ?_
    rintro e u ⟨x0, x1, x2, x3, x4, x5, x6, x7, hx, hlt, rfl, hbu⟩
    have IU := HH.out.below hbu HH.out.lt
    refine ⟨_, rfl, ?_⟩
    simp only [Act.put]
    refine wpAny_take (i := 10) (v := .pointer (some ⟨g, 0, none⟩)) rfl (by kernel_rfl) (by kernel_rfl) (by kernel_rfl) (fun _ _ _ h => h) (Or.inl ⟨by rfl, fun w => by go_simp⟩) ?_
    refine wpAny_take (i := 11) (v := .pointer (some ⟨g, 1, none⟩)) rfl (by kernel_rfl) (by kernel_rfl) (by kernel_rfl) (fun _ _ _ h => h) (Or.inl ⟨by rfl, fun w => by go_simp⟩) ?_
    simp only [Act.put]
    refine wpAny_ready (rs := [12]) (by kernel_rfl) (by simp) ?_
    refine ready_store rfl rfl 68 _ _ rfl g 1 (stC (hOf x0 x1 x2 x3 x4 x5 x6 x7)).toArray (by kernel_rfl) (by kernel_rfl) (IU.there 1 8 (by omega)) (by kernel_rfl) (words_one .u64 [x0, x1, x2, x3, x4, x5, x6, x7]) ?_ AllReady.nil
    refine wpAny_done (by kernel_rfl) ?_ _
    simp only [Act.put]
    go_wp2_with (fail)
    go_end0
    refine ⟨rfl, But.setCells _ _ _ ((But.refl g w).drew.trans (But.of_below hbu)), hOf x0 x1 x2 x3 x4 x5 x6 x7, IU.setSt _, hx.symm, ?_⟩
    exact lt8n (P := fun y => y < 4294967296) hlt
  · refine ready_load rfl rfl 71 _ rfl g 9 (by kernel_rfl) (bufC buf) _ HR2.out Tryd.underlying71 rfl HQ.out ?_ AllReady.nil
    refine wpAny_ready (rs := [4]) (by kernel_rfl) (by simp) ?_
    refine ready_load rfl rfl 68 _ rfl g 1 (by kernel_rfl) (stC st) _ HR1.out Tryd.underlying68 rfl (by kernel_rfl) ?_ AllReady.nil
    simp only [Act.put]
    refine wpAny_ready (rs := [9]) (by kernel_rfl) (by simp) ?_
    refine ready_call rfl rfl 54 _ _ rfl (fun _ _ => by go_simp) #[.agg #[.int .u64 (st 0 : Nat), .int .u64 (st 1 : Nat), .int .u64 (st 2 : Nat), .int .u64 (st 3 : Nat), .int .u64 (st 4 : Nat), .int .u64 (st 5 : Nat), .int .u64 (st 6 : Nat), .int .u64 (st 7 : Nat)], .agg (bufC buf).toArray] (by kernel_rfl) ?_ AllReady.nil
    refine (mix256_any s buf (bufC buf).toArray (st 0) (st 1) (st 2) (st 3) (st 4) (st 5) (st 6) (st 7) _ (bufC_length buf) (fun i hi => (List.getElem?_toArray (xs := bufC buf) (i := i)).trans (bufC_get buf i hi)) HB.out HS.out HL.out HT.out).mono ?_
    rintro e u ⟨x0, x1, x2, x3, x4, x5, x6, x7, hx, hlt, rfl, hbu⟩
    have IU := HH.out.below hbu HH.out.lt
    refine ⟨_, rfl, ?_⟩
    simp only [Act.put]
    refine wpAny_take (i := 10) (v := .pointer (some ⟨g, 0, none⟩)) rfl (by kernel_rfl) (by kernel_rfl) (by kernel_rfl) (fun _ _ _ h => h) (Or.inl ⟨by rfl, fun w => by go_simp⟩) ?_
    refine wpAny_take (i := 11) (v := .pointer (some ⟨g, 1, none⟩)) rfl (by kernel_rfl) (by kernel_rfl) (by kernel_rfl) (fun _ _ _ h => h) (Or.inl ⟨by rfl, fun w => by go_simp⟩) ?_
    simp only [Act.put]
    refine wpAny_ready (rs := [12]) (by kernel_rfl) (by simp) ?_
    refine ready_store rfl rfl 68 _ _ rfl g 1 (stC (hOf x0 x1 x2 x3 x4 x5 x6 x7)).toArray (by kernel_rfl) (by kernel_rfl) (IU.there 1 8 (by omega)) (by kernel_rfl) (words_one .u64 [x0, x1, x2, x3, x4, x5, x6, x7]) ?_ AllReady.nil
    refine wpAny_done (by kernel_rfl) ?_ _
    simp only [Act.put]
    go_wp2_with (fail)
    go_end0
    refine ⟨rfl, But.setCells _ _ _ ((But.refl g w).drew.trans (But.of_below hbu)), hOf x0 x1 x2 x3 x4 x5 x6 x7, IU.setSt _, hx.symm, ?_⟩
    exact lt8n (P := fun y => y < 4294967296) hlt
set_option maxHeartbeats 2000000 in
theorem hmix_384 (s : ByteArray) (g : Nat) (st buf : Nat → Nat) (len : Nat) (w : World) (h : IsH w g 384 st buf len) (hT : Tab w) (hb : ∀ i, buf i < 256) (hs : ∀ i, i < 128 → buf i = Sha5.byt s i) (hl : ∀ i, i < 8 → st i < 18446744073709551616) :
    Calls Tryd.prog 52 #[.pointer (some ⟨g, 0, none⟩)] w fun e w' => e = .returned (.tuple #[]) ∧ But g w w' ∧ ∃ st', IsH w' g 384 st' buf len ∧ stL st' = Sha5.blk s (stL st) ∧ ∀ i, i < 8 → st' i < 18446744073709551616 := by
  have HH : Hid (IsH w.drew g 384 st buf len) := h.drew
  have HT : Hid (Tab w.drew) := hT
  have HB := Lib.hid hb
  have HS := Lib.hid hs
  have HL : Hid (Sha5.Lt64 (st 0) (st 1) (st 2) (st 3) (st 4) (st 5) (st 6) (st 7)) := ⟨hl 0 (by omega), hl 1 (by omega), hl 2 (by omega), hl 3 (by omega), hl 4 (by omega), hl 5 (by omega), hl 6 (by omega), hl 7 (by omega)⟩
  have c0 := h.bits
  have HR1 : Hid (w.drew.rangeAt g 1 (stC st)) := stC_range h.drew
  have HR2 : Hid (w.drew.rangeAt g 9 (bufC buf)) := bufC_range h.drew
  have HQ : Hid ((Tryd.prog.info? 71).map (·.size) = some (bufC buf).length) := by show _ = _; rw [bufC_length]; kernel_rfl
  clear h hT hb hs hl
  go_enter Tryd.func52, Tryd.ntmps52
  go_wp2_with (fail)
  refine wp_region_any (by kernel_rfl) ?_
  change wpAny _ _ _ _ _ _ _ w.drew
  refine wpAny_take (i := 0) (v := .pointer (some ⟨g, 0, none⟩)) rfl (by kernel_rfl) (by kernel_rfl) (by kernel_rfl) (fun _ _ _ h => h) (Or.inl ⟨by rfl, fun w => by go_simp⟩) ?_
  refine wpAny_take (i := 1) (v := .pointer (some ⟨g, 0, none⟩)) rfl (by kernel_rfl) (by kernel_rfl) (by kernel_rfl) (fun _ _ _ h => h) (Or.inl ⟨by rfl, fun w => by go_simp⟩) ?_
  refine wpAny_take (i := 2) (v := .pointer (some ⟨g, 0, none⟩)) rfl (by kernel_rfl) (by kernel_rfl) (by kernel_rfl) (fun _ _ _ h => h) (Or.inl ⟨by rfl, fun w => by go_simp⟩) ?_
  refine wpAny_take (i := 3) (v := .pointer (some ⟨g, 1, none⟩)) rfl (by kernel_rfl) (by kernel_rfl) (by kernel_rfl) (fun _ _ _ h => h) (Or.inl ⟨by rfl, fun w => by go_simp⟩) ?_
  refine wpAny_take (i := 5) (v := .pointer (some ⟨g, 0, none⟩)) rfl (by kernel_rfl) (by kernel_rfl) (by kernel_rfl) (fun _ _ _ h => h) (Or.inl ⟨by rfl, fun w => by go_simp⟩) ?_
  refine wpAny_take (i := 6) (v := .pointer (some ⟨g, 0, none⟩)) rfl (by kernel_rfl) (by kernel_rfl) (by kernel_rfl) (fun _ _ _ h => h) (Or.inl ⟨by rfl, fun w => by go_simp⟩) ?_
  refine wpAny_take (i := 7) (v := .pointer (some ⟨g, 9, none⟩)) rfl (by kernel_rfl) (by kernel_rfl) (by kernel_rfl) (fun _ _ _ h => h) (Or.inl ⟨by rfl, fun w => by go_simp⟩) ?_
  simp only [Act.put, List.setIfInBounds_toArray]
  refine wpAny_ready (rs := [4, 8]) (by kernel_rfl) (by simp) ?_
  refine ready_load rfl rfl 68 _ rfl g 1 (by kernel_rfl) (stC st) _ HR1.out Tryd.underlying68 rfl (by kernel_rfl) ?_ ?_
  · refine wpAny_ready (rs := [8]) (by kernel_rfl) (by simp) ?_
    refine ready_load rfl rfl 71 _ rfl g 9 (by kernel_rfl) (bufC buf) _ HR2.out Tryd.underlying71 rfl HQ.out ?_ AllReady.nil
    simp only [Act.put]
    refine wpAny_ready (rs := [9]) (by kernel_rfl) (by simp) ?_
    refine ready_call rfl rfl 55 _ _ rfl (fun _ _ => by go_simp) #[.agg #[.int .u64 (st 0 : Nat), .int .u64 (st 1 : Nat), .int .u64 (st 2 : Nat), .int .u64 (st 3 : Nat), .int .u64 (st 4 : Nat), .int .u64 (st 5 : Nat), .int .u64 (st 6 : Nat), .int .u64 (st 7 : Nat)], .agg (bufC buf).toArray] (by kernel_rfl) ?_ AllReady.nil
    refine (Im5.mix384_any s buf (bufC buf).toArray (st 0) (st 1) (st 2) (st 3) (st 4) (st 5) (st 6) (st 7) _ (bufC_length buf) (fun i hi => (List.getElem?_toArray (xs := bufC buf) (i := i)).trans (bufC_get buf i hi)) HB.out HS.out HL.out HT.out).mono ?_
    rintro e u ⟨x0, x1, x2, x3, x4, x5, x6, x7, hx, hlt, rfl, hbu⟩
    have IU := HH.out.below hbu HH.out.lt
    refine ⟨_, rfl, ?_⟩
    simp only [Act.put]
    refine wpAny_take (i := 10) (v := .pointer (some ⟨g, 0, none⟩)) rfl (by kernel_rfl) (by kernel_rfl) (by kernel_rfl) (fun _ _ _ h => h) (Or.inl ⟨by rfl, fun w => by go_simp⟩) ?_
    refine wpAny_take (i := 11) (v := .pointer (some ⟨g, 1, none⟩)) rfl (by kernel_rfl) (by kernel_rfl) (by kernel_rfl) (fun _ _ _ h => h) (Or.inl ⟨by rfl, fun w => by go_simp⟩) ?_
    simp only [Act.put]
    refine wpAny_ready (rs := [12]) (by kernel_rfl) (by simp) ?_
    refine ready_store rfl rfl 68 _ _ rfl g 1 (stC (hOf x0 x1 x2 x3 x4 x5 x6 x7)).toArray (by kernel_rfl) (by kernel_rfl) (IU.there 1 8 (by omega)) (by kernel_rfl) (words_one .u64 [x0, x1, x2, x3, x4, x5, x6, x7]) ?_ AllReady.nil
    refine wpAny_done (by kernel_rfl) ?_ _
    simp only [Act.put]
    go_wp2_with (fail)
    go_end0
    refine ⟨rfl, But.setCells _ _ _ ((But.refl g w).drew.trans (But.of_below hbu)), hOf x0 x1 x2 x3 x4 x5 x6 x7, IU.setSt _, hx.symm, ?_⟩
    exact lt8n (P := fun y => y < 18446744073709551616) hlt
  · refine ready_load rfl rfl 71 _ rfl g 9 (by kernel_rfl) (bufC buf) _ HR2.out Tryd.underlying71 rfl HQ.out ?_ AllReady.nil
    refine wpAny_ready (rs := [4]) (by kernel_rfl) (by simp) ?_
    refine ready_load rfl rfl 68 _ rfl g 1 (by kernel_rfl) (stC st) _ HR1.out Tryd.underlying68 rfl (by kernel_rfl) ?_ AllReady.nil
    simp only [Act.put]
    refine wpAny_ready (rs := [9]) (by kernel_rfl) (by simp) ?_
    refine ready_call rfl rfl 55 _ _ rfl (fun _ _ => by go_simp) #[.agg #[.int .u64 (st 0 : Nat), .int .u64 (st 1 : Nat), .int .u64 (st 2 : Nat), .int .u64 (st 3 : Nat), .int .u64 (st 4 : Nat), .int .u64 (st 5 : Nat), .int .u64 (st 6 : Nat), .int .u64 (st 7 : Nat)], .agg (bufC buf).toArray] (by kernel_rfl) ?_ AllReady.nil
    refine (Im5.mix384_any s buf (bufC buf).toArray (st 0) (st 1) (st 2) (st 3) (st 4) (st 5) (st 6) (st 7) _ (bufC_length buf) (fun i hi => (List.getElem?_toArray (xs := bufC buf) (i := i)).trans (bufC_get buf i hi)) HB.out HS.out HL.out HT.out).mono ?_
    rintro e u ⟨x0, x1, x2, x3, x4, x5, x6, x7, hx, hlt, rfl, hbu⟩
    have IU := HH.out.below hbu HH.out.lt
    refine ⟨_, rfl, ?_⟩
    simp only [Act.put]
    refine wpAny_take (i := 10) (v := .pointer (some ⟨g, 0, none⟩)) rfl (by kernel_rfl) (by kernel_rfl) (by kernel_rfl) (fun _ _ _ h => h) (Or.inl ⟨by rfl, fun w => by go_simp⟩) ?_
    refine wpAny_take (i := 11) (v := .pointer (some ⟨g, 1, none⟩)) rfl (by kernel_rfl) (by kernel_rfl) (by kernel_rfl) (fun _ _ _ h => h) (Or.inl ⟨by rfl, fun w => by go_simp⟩) ?_
    simp only [Act.put]
    refine wpAny_ready (rs := [12]) (by kernel_rfl) (by simp) ?_
    refine ready_store rfl rfl 68 _ _ rfl g 1 (stC (hOf x0 x1 x2 x3 x4 x5 x6 x7)).toArray (by kernel_rfl) (by kernel_rfl) (IU.there 1 8 (by omega)) (by kernel_rfl) (words_one .u64 [x0, x1, x2, x3, x4, x5, x6, x7]) ?_ AllReady.nil
    refine wpAny_done (by kernel_rfl) ?_ _
    simp only [Act.put]
    go_wp2_with (fail)
    go_end0
    refine ⟨rfl, But.setCells _ _ _ ((But.refl g w).drew.trans (But.of_below hbu)), hOf x0 x1 x2 x3 x4 x5 x6 x7, IU.setSt _, hx.symm, ?_⟩
    exact lt8n (P := fun y => y < 18446744073709551616) hlt
end Go.Proofs.Im
