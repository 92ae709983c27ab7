/-
  Contracts of the document's own answer: padded.
-/
import Derived.Test.YtbfkbinkfboklaaDoorBeA
import Derived.Deep.RegionWith
namespace Go.Proofs.Be
open Go.RowKit
/-- How many noughts stand behind the 1, ahead of the length's place of z bytes, to blocks of b. -/
def padZ (n b z : Nat) : Nat := (b - (n + 1 + z) % b) % b
theorem zeros (m : Nat) (hm : m ≤ 1000000) : ∃ (M : Array Value), M.size = m ∧ (∀ i, i < m → M[i]? = some (.int .u8 0)) ∧
    (∀ W : World, (Instr.makeSlice 35 (.int .i64 (m : Int)) (.int .i64 (m : Int))).run Tryd.prog W = .ok (.slice (some ⟨W.heap.size, 0, none⟩) m m) (W.alloc (.cells M 5))) := by
  obtain ⟨i0, hi, hz0, hz1, hz2⟩ := info_parts (P := Tryd.prog) (e := 5) (z := .int .u8 0) (size := 1) (bytes := 1) (by kernel_rfl)
  refine ⟨madeCells (Value.int .u8 0).cells (m * i0.size), by rw [size_madeCells, hz1]; simp, fun i hi' => ?_, fun W => ?_⟩
  · rw [hz1]
    simp [madeCells, hi', Value.cells, Nat.mod_one]
  · have h := run_make (P := Tryd.prog) W 35 5 i0 (.int .u8 0) Tryd.underlying35 hi hz0 .i64 .i64 (m : Int) (m : Int) (by omega) (by omega) (by rw [hz2]; omega) (by omega)
    rw [Int.toNat_natCast] at h
    exact h
/-- m noughts as a text. -/
def zS (m : Nat) : ByteArray := strOfNums (List.replicate m 0)
theorem zS_size (m : Nat) : (zS m).size = m := by simp [zS, strOfNums_size]
theorem conv_of {W : World} {g m : Nat} (h : ∀ i, i < m → W.cell? ⟨g, 0 + i, none⟩ = some (.int .u8 0)) :
    (convert 35 9 (.slice (some ⟨g, 0, none⟩) m m)).run Tryd.prog W = .ok (.string (zS m)) W :=
  run_convert_bytes_arg (P := Tryd.prog) W 35 5 Tryd.underlying35 Tryd.underlying5 g 0 m m (List.replicate m 0) (by simp) (fun i hi => by
    rw [h i hi, List.getD_eq_getElem?_getD, List.getElem?_replicate, if_pos hi]; rfl) 9 Tryd.underlying9
theorem conv_new (W : World) (M : Array Value) (m : Nat) (hMc : ∀ i, i < m → M[i]? = some (.int .u8 0)) :
    (convert 35 9 (.slice (some ⟨W.heap.size, 0, none⟩) m m)).run Tryd.prog (W.alloc (.cells M 5)) = .ok (.string (zS m)) (W.alloc (.cells M 5)) :=
  conv_of fun i hi => by rw [World.cell?_alloc_at _ _ _ _ rfl, Nat.zero_add]; exact hMc i hi
theorem conv_drew (W : World) (M : Array Value) (m : Nat) (hMc : ∀ i, i < m → M[i]? = some (.int .u8 0)) :
    (convert 35 9 (.slice (some ⟨W.heap.size, 0, none⟩) m m)).run Tryd.prog (W.alloc (.cells M 5)).drew = .ok (.string (zS m)) (W.alloc (.cells M 5)).drew :=
  conv_of fun i hi => by rw [World.cell?_drew, World.cell?_alloc_at _ _ _ _ rfl, Nat.zero_add]; exact hMc i hi
theorem conv_late (W u : World) (M : Array Value) (m : Nat) (hMc : ∀ i, i < m → M[i]? = some (.int .u8 0)) (hb : Below (W.alloc (.cells M 5)).drew.heap.size (W.alloc (.cells M 5)).drew u) :
    (convert 35 9 (.slice (some ⟨W.heap.size, 0, none⟩) m m)).run Tryd.prog u = .ok (.string (zS m)) u :=
  conv_of fun i hi => by rw [hb.cell (p := ⟨W.heap.size, 0 + i, none⟩) (by simp), World.cell?_drew, World.cell?_alloc_at _ _ _ _ rfl, Nat.zero_add]; exact hMc i hi
set_option maxHeartbeats 2000000 in
set_option maxRecDepth 100000 in
theorem padded_64 (s : ByteArray) (w : World) (hs : s.size ≤ 288230376151711744) :
    Calls Tryd.prog 36 #[.string s, .int .i64 64, .int .i64 8] w fun e w' => e = .returned (.string (s ++ ⟨#[128]⟩ ++ zS ((64 - (s.size + 9) % 64) % 64 + 0) ++ beS (8 * s.size) 8)) ∧ Below w.heap.size w w' := by
  obtain ⟨r, hr⟩ : ∃ r : Nat, (s.size + 9) % 64 = r := ⟨_, rfl⟩
  have hr2 : ((s.size : Int) + 1 + 8) % 64 = r := by omega
  have r1 : r < 64 := by omega
  have HR := Lib.hid hr
  clear hr
  by_cases h0 : r = 0
  · subst h0
    have hr3 : ((s.size : Int) + 1 + 8) % 64 = 0 := hr2
    clear hr2
    obtain ⟨M, hM, hMc, hmk0⟩ := zeros 0 (by omega)
    have hmk : ∀ W : World, (Instr.makeSlice 35 (.int .i64 0) (.int .i64 0)).run Tryd.prog W = .ok (.slice (some ⟨W.heap.size, 0, none⟩) 0 0) (W.alloc (.cells M 5)) := hmk0
    clear hmk0
    go_enter Tryd.func36, Tryd.ntmps36
    go_wp2_with (fail)
    have x1 : IntKind.i64.wrap 8 = 8 := by decide
    have x2 : IntKind.i64.wrap 0 = 0 := by decide
    have x4 : IntKind.i64.wrap 0 = 0 := by decide
    have x3 : IntKind.i64.wrap (8 * (s.size : Int)) = 8 * (s.size : Int) := IntWalk.i64_in _ (by omega)
    have HMc := Lib.hid hMc
    have c1 := fun W => conv_new W M (0) hMc
    have c2 := fun W => conv_drew W M (0) hMc
    have zs := zS_size (0)
    have bs := beS_size (8 * s.size) 8
    clear hMc
    have d1 : (9223372036854775807 < s.size + 1) = False := by simp; omega
    have d2 : (9223372036854775807 < s.size + 1 + (0)) = False := by simp; omega
    have d3 : (9223372036854775807 < s.size + 1 + (0) + 8) = False := by simp; omega
    have o1 : (⟨#[128]⟩ : ByteArray).size = 1 := rfl
    go_region_with (go_at_call 25; refine (be_8 (8 * s.size) _ (by clear x1 x2 x3 x4 d1 d2 d3; omega)).mono ?_; rintro e u ⟨rfl, hbu⟩; (try have c3 := conv_late _ _ _ _ HMc.out hbu))
    all_goals clear x1 x2 x3 x4 d1 d2 d3
    all_goals go_wp2_with (fail)
    all_goals go_ret
    all_goals refine ⟨retS (by rw [HR.out]), ?_⟩
    all_goals first | exact ((Below.refl _ w).alloc (Nat.le_refl _) _).drew.trans (hbu.mono (by simp)) | exact (show Below w.heap.size w u from (Below.refl _ w).drew.trans hbu).alloc (by have := hbu.size; simpa using this) _
  · have n0 : ((64 : Int) - r == 64) = false := by simp; omega
    obtain ⟨M, hM, hMc, hmk⟩ := zeros (64 - r) (by omega)
    rw [show ((64 - r : Nat) : Int) = 64 - (r : Int) by omega] at hmk
    go_enter Tryd.func36, Tryd.ntmps36
    go_wp2_with (fail)
    have x1 : IntKind.i64.wrap (64 - (r : Int) + 8) = 64 - (r : Int) + 8 := IntWalk.i64_in _ (by omega)
    have x2 : IntKind.i64.wrap (64 - (r : Int) + 8 - 8) = 64 - (r : Int) := by rw [IntWalk.i64_in _ (by omega)]; omega
    have x4 : IntKind.i64.wrap (64 - (r : Int)) = 64 - (r : Int) := IntWalk.i64_in _ (by omega)
    have x3 : IntKind.i64.wrap (8 * (s.size : Int)) = 8 * (s.size : Int) := IntWalk.i64_in _ (by omega)
    have HMc := Lib.hid hMc
    have c1 := fun W => conv_new W M (64 - r) hMc
    have c2 := fun W => conv_drew W M (64 - r) hMc
    have zs := zS_size (64 - r)
    have bs := beS_size (8 * s.size) 8
    clear hMc
    have d1 : (9223372036854775807 < s.size + 1) = False := by simp; omega
    have d2 : (9223372036854775807 < s.size + 1 + (64 - r)) = False := by simp; omega
    have d3 : (9223372036854775807 < s.size + 1 + (64 - r) + 8) = False := by simp; omega
    have o1 : (⟨#[128]⟩ : ByteArray).size = 1 := rfl
    go_region_with (go_at_call 25; refine (be_8 (8 * s.size) _ (by clear x1 x2 x3 x4 d1 d2 d3; omega)).mono ?_; rintro e u ⟨rfl, hbu⟩; (try have c3 := conv_late _ _ _ _ HMc.out hbu))
    all_goals clear x1 x2 x3 x4 d1 d2 d3
    all_goals go_wp2_with (fail)
    all_goals go_ret
    all_goals refine ⟨retS (by rw [HR.out, Nat.mod_eq_of_lt (show 64 - r < 64 by omega), Nat.add_zero]), ?_⟩
    all_goals first | exact ((Below.refl _ w).alloc (Nat.le_refl _) _).drew.trans (hbu.mono (by simp)) | exact (show Below w.heap.size w u from (Below.refl _ w).drew.trans hbu).alloc (by have := hbu.size; simpa using this) _
set_option maxHeartbeats 2000000 in
set_option maxRecDepth 100000 in
theorem padded_128 (s : ByteArray) (w : World) (hs : s.size ≤ 288230376151711744) :
    Calls Tryd.prog 36 #[.string s, .int .i64 128, .int .i64 16] w fun e w' => e = .returned (.string (s ++ ⟨#[128]⟩ ++ zS ((128 - (s.size + 17) % 128) % 128 + 8) ++ beS (8 * s.size) 8)) ∧ Below w.heap.size w w' := by
  obtain ⟨r, hr⟩ : ∃ r : Nat, (s.size + 17) % 128 = r := ⟨_, rfl⟩
  have hr2 : ((s.size : Int) + 1 + 16) % 128 = r := by omega
  have r1 : r < 128 := by omega
  have HR := Lib.hid hr
  clear hr
  by_cases h0 : r = 0
  · subst h0
    have hr3 : ((s.size : Int) + 1 + 16) % 128 = 0 := hr2
    clear hr2
    obtain ⟨M, hM, hMc, hmk0⟩ := zeros 8 (by omega)
    have hmk : ∀ W : World, (Instr.makeSlice 35 (.int .i64 8) (.int .i64 8)).run Tryd.prog W = .ok (.slice (some ⟨W.heap.size, 0, none⟩) 8 8) (W.alloc (.cells M 5)) := hmk0
    clear hmk0
    go_enter Tryd.func36, Tryd.ntmps36
    go_wp2_with (fail)
    have x1 : IntKind.i64.wrap 16 = 16 := by decide
    have x2 : IntKind.i64.wrap 8 = 8 := by decide
    have x4 : IntKind.i64.wrap 0 = 0 := by decide
    have x3 : IntKind.i64.wrap (8 * (s.size : Int)) = 8 * (s.size : Int) := IntWalk.i64_in _ (by omega)
    have HMc := Lib.hid hMc
    have c1 := fun W => conv_new W M (8) hMc
    have c2 := fun W => conv_drew W M (8) hMc
    have zs := zS_size (8)
    have bs := beS_size (8 * s.size) 8
    clear hMc
    have d1 : (9223372036854775807 < s.size + 1) = False := by simp; omega
    have d2 : (9223372036854775807 < s.size + 1 + (8)) = False := by simp; omega
    have d3 : (9223372036854775807 < s.size + 1 + (8) + 8) = False := by simp; omega
    have o1 : (⟨#[128]⟩ : ByteArray).size = 1 := rfl
    go_region_with (go_at_call 25; refine (be_8 (8 * s.size) _ (by clear x1 x2 x3 x4 d1 d2 d3; omega)).mono ?_; rintro e u ⟨rfl, hbu⟩; (try have c3 := conv_late _ _ _ _ HMc.out hbu))
    all_goals clear x1 x2 x3 x4 d1 d2 d3
    all_goals go_wp2_with (fail)
    all_goals go_ret
    all_goals refine ⟨retS (by rw [HR.out]), ?_⟩
    all_goals first | exact ((Below.refl _ w).alloc (Nat.le_refl _) _).drew.trans (hbu.mono (by simp)) | exact (show Below w.heap.size w u from (Below.refl _ w).drew.trans hbu).alloc (by have := hbu.size; simpa using this) _
  · have n0 : ((128 : Int) - r == 128) = false := by simp; omega
    obtain ⟨M, hM, hMc, hmk⟩ := zeros (128 - r + 8) (by omega)
    rw [show ((128 - r + 8 : Nat) : Int) = 128 - (r : Int) + 8 by omega] at hmk
    go_enter Tryd.func36, Tryd.ntmps36
    go_wp2_with (fail)
    have x1 : IntKind.i64.wrap (128 - (r : Int) + 16) = 128 - (r : Int) + 16 := IntWalk.i64_in _ (by omega)
    have x2 : IntKind.i64.wrap (128 - (r : Int) + 16 - 8) = 128 - (r : Int) + 8 := by rw [IntWalk.i64_in _ (by omega)]; omega
    have x4 : IntKind.i64.wrap (128 - (r : Int) + 8) = 128 - (r : Int) + 8 := IntWalk.i64_in _ (by omega)
    have x3 : IntKind.i64.wrap (8 * (s.size : Int)) = 8 * (s.size : Int) := IntWalk.i64_in _ (by omega)
    have HMc := Lib.hid hMc
    have c1 := fun W => conv_new W M (128 - r + 8) hMc
    have c2 := fun W => conv_drew W M (128 - r + 8) hMc
    have zs := zS_size (128 - r + 8)
    have bs := beS_size (8 * s.size) 8
    clear hMc
    have d1 : (9223372036854775807 < s.size + 1) = False := by simp; omega
    have d2 : (9223372036854775807 < s.size + 1 + (128 - r + 8)) = False := by simp; omega
    have d3 : (9223372036854775807 < s.size + 1 + (128 - r + 8) + 8) = False := by simp; omega
    have o1 : (⟨#[128]⟩ : ByteArray).size = 1 := rfl
    go_region_with (go_at_call 25; refine (be_8 (8 * s.size) _ (by clear x1 x2 x3 x4 d1 d2 d3; omega)).mono ?_; rintro e u ⟨rfl, hbu⟩; (try have c3 := conv_late _ _ _ _ HMc.out hbu))
    all_goals clear x1 x2 x3 x4 d1 d2 d3
    all_goals go_wp2_with (fail)
    all_goals go_ret
    all_goals refine ⟨retS (by rw [HR.out, Nat.mod_eq_of_lt (show 128 - r < 128 by omega)]), ?_⟩
    all_goals first | exact ((Below.refl _ w).alloc (Nat.le_refl _) _).drew.trans (hbu.mono (by simp)) | exact (show Below w.heap.size w u from (Below.refl _ w).drew.trans hbu).alloc (by have := hbu.size; simpa using this) _
end Go.Proofs.Be
