/-
  The document's own answer for layer 9: sums, differences, products of texts, at every input.
-/
import Derived.Test.YtbkfpaodicfmhaaNuM
import Derived.Test.YtbkfpaodicfmhaaNuE
import Derived.Test.YtbkfpaodicfmhaaNuI
namespace Go.Proofs.Nu
open Go.RowKit
open Go.Proofs.Im (wpList_box_to words_heap words_one run_index_row)
open Go.Proofs.Sha (wordCells wordCells_get wordCells_size rowIs_of wpList_alloc_to wpList_build_to)
open Go.Proofs.Nt
/-- Both are numbers of the modulus; the result's text. -/
def c9Ok (z : Int) (a b : ByteArray) : Bool := numOk z a && numOk z b
def c9X (how z : Int) (a b : ByteArray) : Nat := if how = 0 then (bn a + bn b) % md z else if how = 1 then (bn a + md z - bn b) % md z else bn a * bn b % md z
def c9S (how z : Int) (a b : ByteArray) : ByteArray := bif c9Ok z a b then t32 (c9X how z a b) else ⟨#[]⟩
def c9E (z : Int) (a b : ByteArray) : Int := bif c9Ok z a b then 0 else 900
theorem numX_ok {z : Int} {s : ByteArray} (h : numOk z s = true) : numX z s = bn s ∧ bn s < md z := by
  obtain ⟨h1, h2, h3⟩ := (numOk_iff z s).1 h
  exact ⟨if_pos ⟨h1, h2⟩, h3⟩
set_option maxHeartbeats 2000000 in
set_option maxRecDepth 20000 in
theorem calc_no (how z : Int) (a b : ByteArray) (w : World) (h : c9Ok z a b = false) : Calls Try.prog 9 #[.int .i64 how, .int .i64 z, .string a, .string b] w fun e w' => e = .returned (.tuple #[.string ⟨#[]⟩, .int .i64 900]) ∧ Below w.heap.size w w' := by
  have HA := Lib.hid (fun u => number_any z a u)
  have HBn := Lib.hid (fun u => number_any z b u)
  unfold c9Ok at h
  generalize numX z a = X at HA
  generalize numX z b = Y at HBn
  generalize numOk z a = oa at HA h
  generalize numOk z b = ob at HBn h
  cases oa
  · clear h
    cases ob
    · go_enter Try.func9, Try.ntmps9
      have HB : Hid (Below w.heap.size w w) := Below.refl _ _
      go_upto_region 1 with (fail)
      apply wp_region_lit
      refine Lw.wpList_val rfl (.int .i64 z) w (by go_simp) ?_
      refine Lw.wpList_val rfl (.string a) w (by go_simp) ?_
      simp only [Act.put, List.setIfInBounds_toArray, List.set_cons_zero, List.set_cons_succ]
      refine Lw.wpList_callTo (some 17) rfl rfl 21 _ _ rfl (fun _ _ => by go_simp) #[.int .i64 z, .string a] (by kernel_rfl) ?_
      refine (HA.out _).mono ?_
      rintro e u1 ⟨rfl, hb⟩
      refine ⟨_, rfl, ?_⟩
      have HB := Lib.hid (Lw.go_on HB.out hb)
      clear hb
      refine Lw.wpList_val rfl (.tuple #[nmV X, .bool false]) u1 (by go_simp) ?_
      refine Lw.wpList_val rfl (nmV X) u1 (by go_simp) ?_
      refine Lw.wpList_val rfl (.bool false) u1 (by go_simp) ?_
      refine wpList_alloc_to rfl 51 rfl (nmA fun _ => 0) u1.heap.size rfl alloc8 ?_
      refine wpList_store_row rfl 51 _ _ rfl u1.heap.size (nmA (lb X)) (by kernel_rfl) (by kernel_rfl) 51 _ (heap_alloc_last _ _) (by kernel_rfl) (by rw [nmA_size, nmA_size]) (nmA_one _) ?_
      rw [World.setRow_alloc_new]
      refine Lw.wpList_val rfl (.bool false) (u1.alloc (.cells (nmA (lb X)) 51)) (by go_simp) ?_
      simp only [Act.put, List.setIfInBounds_toArray, List.set_cons_zero, List.set_cons_succ]
      have HX := Lib.hid (Nm.new u1 X)
      have HB : Hid (Below w.heap.size w (u1.alloc (.cells (nmA (lb X)) 51))) := HB.out.alloc HB.out.size _
      generalize u1.alloc (.cells (nmA (lb X)) 51) = w2 at HX HB ⊢
      generalize u1.heap.size = gx at HX ⊢
      go_upto_region 2 with (fail)
      apply wp_region_lit
      refine Lw.wpList_val rfl (.int .i64 z) w2 (by go_simp) ?_
      refine Lw.wpList_val rfl (.string b) w2 (by go_simp) ?_
      simp only [Act.put, List.setIfInBounds_toArray, List.set_cons_zero, List.set_cons_succ]
      refine Lw.wpList_callTo (some 23) rfl rfl 21 _ _ rfl (fun _ _ => by go_simp) #[.int .i64 z, .string b] (by kernel_rfl) ?_
      refine (HBn.out _).mono ?_
      rintro e u3 ⟨rfl, hb⟩
      refine ⟨_, rfl, ?_⟩
      have HX := Lib.hid (HX.out.on hb)
      have HB := Lib.hid (Lw.go_on HB.out hb)
      clear hb
      refine Lw.wpList_val rfl (.tuple #[nmV Y, .bool false]) u3 (by go_simp) ?_
      refine Lw.wpList_val rfl (nmV Y) u3 (by go_simp) ?_
      refine Lw.wpList_val rfl (.bool false) u3 (by go_simp) ?_
      refine wpList_alloc_to rfl 51 rfl (nmA fun _ => 0) u3.heap.size rfl alloc8 ?_
      refine wpList_store_row rfl 51 _ _ rfl u3.heap.size (nmA (lb Y)) (by kernel_rfl) (by kernel_rfl) 51 _ (heap_alloc_last _ _) (by kernel_rfl) (by rw [nmA_size, nmA_size]) (nmA_one _) ?_
      rw [World.setRow_alloc_new]
      refine Lw.wpList_val rfl (.bool false) (u3.alloc (.cells (nmA (lb Y)) 51)) (by go_simp) ?_
      simp only [Act.put, List.setIfInBounds_toArray, List.set_cons_zero, List.set_cons_succ]
      have HY := Lib.hid (Nm.new u3 Y)
      have HX := Lib.hid (HX.out.alloc (.cells (nmA (lb Y)) 51))
      have HB : Hid (Below w.heap.size w (u3.alloc (.cells (nmA (lb Y)) 51))) := HB.out.alloc HB.out.size _
      generalize u3.alloc (.cells (nmA (lb Y)) 51) = w4 at HX HY HB ⊢
      generalize u3.heap.size = gy at HY ⊢
      go_wp2_with (fail)
      go_ret2
      exact ⟨rfl, HB.out⟩
    · go_enter Try.func9, Try.ntmps9
      have HB : Hid (Below w.heap.size w w) := Below.refl _ _
      go_upto_region 1 with (fail)
      apply wp_region_lit
      refine Lw.wpList_val rfl (.int .i64 z) w (by go_simp) ?_
      refine Lw.wpList_val rfl (.string a) w (by go_simp) ?_
      simp only [Act.put, List.setIfInBounds_toArray, List.set_cons_zero, List.set_cons_succ]
      refine Lw.wpList_callTo (some 17) rfl rfl 21 _ _ rfl (fun _ _ => by go_simp) #[.int .i64 z, .string a] (by kernel_rfl) ?_
      refine (HA.out _).mono ?_
      rintro e u1 ⟨rfl, hb⟩
      refine ⟨_, rfl, ?_⟩
      have HB := Lib.hid (Lw.go_on HB.out hb)
      clear hb
      refine Lw.wpList_val rfl (.tuple #[nmV X, .bool false]) u1 (by go_simp) ?_
      refine Lw.wpList_val rfl (nmV X) u1 (by go_simp) ?_
      refine Lw.wpList_val rfl (.bool false) u1 (by go_simp) ?_
      refine wpList_alloc_to rfl 51 rfl (nmA fun _ => 0) u1.heap.size rfl alloc8 ?_
      refine wpList_store_row rfl 51 _ _ rfl u1.heap.size (nmA (lb X)) (by kernel_rfl) (by kernel_rfl) 51 _ (heap_alloc_last _ _) (by kernel_rfl) (by rw [nmA_size, nmA_size]) (nmA_one _) ?_
      rw [World.setRow_alloc_new]
      refine Lw.wpList_val rfl (.bool false) (u1.alloc (.cells (nmA (lb X)) 51)) (by go_simp) ?_
      simp only [Act.put, List.setIfInBounds_toArray, List.set_cons_zero, List.set_cons_succ]
      have HX := Lib.hid (Nm.new u1 X)
      have HB : Hid (Below w.heap.size w (u1.alloc (.cells (nmA (lb X)) 51))) := HB.out.alloc HB.out.size _
      generalize u1.alloc (.cells (nmA (lb X)) 51) = w2 at HX HB ⊢
      generalize u1.heap.size = gx at HX ⊢
      go_upto_region 2 with (fail)
      apply wp_region_lit
      refine Lw.wpList_val rfl (.int .i64 z) w2 (by go_simp) ?_
      refine Lw.wpList_val rfl (.string b) w2 (by go_simp) ?_
      simp only [Act.put, List.setIfInBounds_toArray, List.set_cons_zero, List.set_cons_succ]
      refine Lw.wpList_callTo (some 23) rfl rfl 21 _ _ rfl (fun _ _ => by go_simp) #[.int .i64 z, .string b] (by kernel_rfl) ?_
      refine (HBn.out _).mono ?_
      rintro e u3 ⟨rfl, hb⟩
      refine ⟨_, rfl, ?_⟩
      have HX := Lib.hid (HX.out.on hb)
      have HB := Lib.hid (Lw.go_on HB.out hb)
      clear hb
      refine Lw.wpList_val rfl (.tuple #[nmV Y, .bool true]) u3 (by go_simp) ?_
      refine Lw.wpList_val rfl (nmV Y) u3 (by go_simp) ?_
      refine Lw.wpList_val rfl (.bool true) u3 (by go_simp) ?_
      refine wpList_alloc_to rfl 51 rfl (nmA fun _ => 0) u3.heap.size rfl alloc8 ?_
      refine wpList_store_row rfl 51 _ _ rfl u3.heap.size (nmA (lb Y)) (by kernel_rfl) (by kernel_rfl) 51 _ (heap_alloc_last _ _) (by kernel_rfl) (by rw [nmA_size, nmA_size]) (nmA_one _) ?_
      rw [World.setRow_alloc_new]
      refine Lw.wpList_val rfl (.bool true) (u3.alloc (.cells (nmA (lb Y)) 51)) (by go_simp) ?_
      simp only [Act.put, List.setIfInBounds_toArray, List.set_cons_zero, List.set_cons_succ]
      have HY := Lib.hid (Nm.new u3 Y)
      have HX := Lib.hid (HX.out.alloc (.cells (nmA (lb Y)) 51))
      have HB : Hid (Below w.heap.size w (u3.alloc (.cells (nmA (lb Y)) 51))) := HB.out.alloc HB.out.size _
      generalize u3.alloc (.cells (nmA (lb Y)) 51) = w4 at HX HY HB ⊢
      generalize u3.heap.size = gy at HY ⊢
      go_wp2_with (fail)
      go_ret2
      exact ⟨rfl, HB.out⟩
  · cases ob
    · clear h
      go_enter Try.func9, Try.ntmps9
      have HB : Hid (Below w.heap.size w w) := Below.refl _ _
      go_upto_region 1 with (fail)
      apply wp_region_lit
      refine Lw.wpList_val rfl (.int .i64 z) w (by go_simp) ?_
      refine Lw.wpList_val rfl (.string a) w (by go_simp) ?_
      simp only [Act.put, List.setIfInBounds_toArray, List.set_cons_zero, List.set_cons_succ]
      refine Lw.wpList_callTo (some 17) rfl rfl 21 _ _ rfl (fun _ _ => by go_simp) #[.int .i64 z, .string a] (by kernel_rfl) ?_
      refine (HA.out _).mono ?_
      rintro e u1 ⟨rfl, hb⟩
      refine ⟨_, rfl, ?_⟩
      have HB := Lib.hid (Lw.go_on HB.out hb)
      clear hb
      refine Lw.wpList_val rfl (.tuple #[nmV X, .bool true]) u1 (by go_simp) ?_
      refine Lw.wpList_val rfl (nmV X) u1 (by go_simp) ?_
      refine Lw.wpList_val rfl (.bool true) u1 (by go_simp) ?_
      refine wpList_alloc_to rfl 51 rfl (nmA fun _ => 0) u1.heap.size rfl alloc8 ?_
      refine wpList_store_row rfl 51 _ _ rfl u1.heap.size (nmA (lb X)) (by kernel_rfl) (by kernel_rfl) 51 _ (heap_alloc_last _ _) (by kernel_rfl) (by rw [nmA_size, nmA_size]) (nmA_one _) ?_
      rw [World.setRow_alloc_new]
      refine Lw.wpList_val rfl (.bool true) (u1.alloc (.cells (nmA (lb X)) 51)) (by go_simp) ?_
      simp only [Act.put, List.setIfInBounds_toArray, List.set_cons_zero, List.set_cons_succ]
      have HX := Lib.hid (Nm.new u1 X)
      have HB : Hid (Below w.heap.size w (u1.alloc (.cells (nmA (lb X)) 51))) := HB.out.alloc HB.out.size _
      generalize u1.alloc (.cells (nmA (lb X)) 51) = w2 at HX HB ⊢
      generalize u1.heap.size = gx at HX ⊢
      go_upto_region 2 with (fail)
      apply wp_region_lit
      refine Lw.wpList_val rfl (.int .i64 z) w2 (by go_simp) ?_
      refine Lw.wpList_val rfl (.string b) w2 (by go_simp) ?_
      simp only [Act.put, List.setIfInBounds_toArray, List.set_cons_zero, List.set_cons_succ]
      refine Lw.wpList_callTo (some 23) rfl rfl 21 _ _ rfl (fun _ _ => by go_simp) #[.int .i64 z, .string b] (by kernel_rfl) ?_
      refine (HBn.out _).mono ?_
      rintro e u3 ⟨rfl, hb⟩
      refine ⟨_, rfl, ?_⟩
      have HX := Lib.hid (HX.out.on hb)
      have HB := Lib.hid (Lw.go_on HB.out hb)
      clear hb
      refine Lw.wpList_val rfl (.tuple #[nmV Y, .bool false]) u3 (by go_simp) ?_
      refine Lw.wpList_val rfl (nmV Y) u3 (by go_simp) ?_
      refine Lw.wpList_val rfl (.bool false) u3 (by go_simp) ?_
      refine wpList_alloc_to rfl 51 rfl (nmA fun _ => 0) u3.heap.size rfl alloc8 ?_
      refine wpList_store_row rfl 51 _ _ rfl u3.heap.size (nmA (lb Y)) (by kernel_rfl) (by kernel_rfl) 51 _ (heap_alloc_last _ _) (by kernel_rfl) (by rw [nmA_size, nmA_size]) (nmA_one _) ?_
      rw [World.setRow_alloc_new]
      refine Lw.wpList_val rfl (.bool false) (u3.alloc (.cells (nmA (lb Y)) 51)) (by go_simp) ?_
      simp only [Act.put, List.setIfInBounds_toArray, List.set_cons_zero, List.set_cons_succ]
      have HY := Lib.hid (Nm.new u3 Y)
      have HX := Lib.hid (HX.out.alloc (.cells (nmA (lb Y)) 51))
      have HB : Hid (Below w.heap.size w (u3.alloc (.cells (nmA (lb Y)) 51))) := HB.out.alloc HB.out.size _
      generalize u3.alloc (.cells (nmA (lb Y)) 51) = w4 at HX HY HB ⊢
      generalize u3.heap.size = gy at HY ⊢
      go_wp2_with (fail)
      go_ret2
      exact ⟨rfl, HB.out⟩
    · cases h
set_option maxHeartbeats 2000000 in
set_option maxRecDepth 20000 in
theorem calc_ok (how z : Int) (a b : ByteArray) (w : World) (h : c9Ok z a b = true) : Calls Try.prog 9 #[.int .i64 how, .int .i64 z, .string a, .string b] w fun e w' => e = .returned (.tuple #[.string (t32 (c9X how z a b)), .int .i64 0]) ∧ Below w.heap.size w w' := by
  have HA := Lib.hid (fun u => number_any z a u)
  have HBn := Lib.hid (fun u => number_any z b u)
  unfold c9Ok at h
  rw [Bool.and_eq_true] at h
  obtain ⟨hxa, hla⟩ := numX_ok h.1
  obtain ⟨hxb, hlb⟩ := numX_ok h.2
  rw [h.1, hxa] at HA
  rw [h.2, hxb] at HBn
  have HAd := Lib.hid (fun u => add_any z (bn a) (bn b) u hla hlb)
  have HSu := Lib.hid (fun u => sub_any z (bn a) (bn b) u hla hlb)
  have HMu := Lib.hid (fun u => mul_any z (bn a) (bn b) u hla hlb)
  unfold c9X
  generalize bn a = X at HA HAd HSu HMu ⊢
  generalize bn b = Y at HBn HAd HSu HMu ⊢
  clear h hxa hxb hla hlb
  by_cases h0 : how = 0
  · rw [if_pos h0]
    subst h0
    have HPu := Lib.hid (fun u => put_any ((X + Y) % md z) u)
    generalize (X + Y) % md z = R at HPu HAd ⊢
    go_enter Try.func9, Try.ntmps9
    have HB : Hid (Below w.heap.size w w) := Below.refl _ _
    go_upto_region 1 with (fail)
    apply wp_region_lit
    refine Lw.wpList_val rfl (.int .i64 z) w (by go_simp) ?_
    refine Lw.wpList_val rfl (.string a) w (by go_simp) ?_
    simp only [Act.put, List.setIfInBounds_toArray, List.set_cons_zero, List.set_cons_succ]
    refine Lw.wpList_callTo (some 17) rfl rfl 21 _ _ rfl (fun _ _ => by go_simp) #[.int .i64 z, .string a] (by kernel_rfl) ?_
    refine (HA.out _).mono ?_
    rintro e u1 ⟨rfl, hb⟩
    refine ⟨_, rfl, ?_⟩
    have HB := Lib.hid (Lw.go_on HB.out hb)
    clear hb
    refine Lw.wpList_val rfl (.tuple #[nmV X, .bool true]) u1 (by go_simp) ?_
    refine Lw.wpList_val rfl (nmV X) u1 (by go_simp) ?_
    refine Lw.wpList_val rfl (.bool true) u1 (by go_simp) ?_
    refine wpList_alloc_to rfl 51 rfl (nmA fun _ => 0) u1.heap.size rfl alloc8 ?_
    refine wpList_store_row rfl 51 _ _ rfl u1.heap.size (nmA (lb X)) (by kernel_rfl) (by kernel_rfl) 51 _ (heap_alloc_last _ _) (by kernel_rfl) (by rw [nmA_size, nmA_size]) (nmA_one _) ?_
    rw [World.setRow_alloc_new]
    refine Lw.wpList_val rfl (.bool true) (u1.alloc (.cells (nmA (lb X)) 51)) (by go_simp) ?_
    simp only [Act.put, List.setIfInBounds_toArray, List.set_cons_zero, List.set_cons_succ]
    have HX := Lib.hid (Nm.new u1 X)
    have HB : Hid (Below w.heap.size w (u1.alloc (.cells (nmA (lb X)) 51))) := HB.out.alloc HB.out.size _
    generalize u1.alloc (.cells (nmA (lb X)) 51) = w2 at HX HB ⊢
    generalize u1.heap.size = gx at HX ⊢
    go_upto_region 2 with (fail)
    apply wp_region_lit
    refine Lw.wpList_val rfl (.int .i64 z) w2 (by go_simp) ?_
    refine Lw.wpList_val rfl (.string b) w2 (by go_simp) ?_
    simp only [Act.put, List.setIfInBounds_toArray, List.set_cons_zero, List.set_cons_succ]
    refine Lw.wpList_callTo (some 23) rfl rfl 21 _ _ rfl (fun _ _ => by go_simp) #[.int .i64 z, .string b] (by kernel_rfl) ?_
    refine (HBn.out _).mono ?_
    rintro e u3 ⟨rfl, hb⟩
    refine ⟨_, rfl, ?_⟩
    have HX := Lib.hid (HX.out.on hb)
    have HB := Lib.hid (Lw.go_on HB.out hb)
    clear hb
    refine Lw.wpList_val rfl (.tuple #[nmV Y, .bool true]) u3 (by go_simp) ?_
    refine Lw.wpList_val rfl (nmV Y) u3 (by go_simp) ?_
    refine Lw.wpList_val rfl (.bool true) u3 (by go_simp) ?_
    refine wpList_alloc_to rfl 51 rfl (nmA fun _ => 0) u3.heap.size rfl alloc8 ?_
    refine wpList_store_row rfl 51 _ _ rfl u3.heap.size (nmA (lb Y)) (by kernel_rfl) (by kernel_rfl) 51 _ (heap_alloc_last _ _) (by kernel_rfl) (by rw [nmA_size, nmA_size]) (nmA_one _) ?_
    rw [World.setRow_alloc_new]
    refine Lw.wpList_val rfl (.bool true) (u3.alloc (.cells (nmA (lb Y)) 51)) (by go_simp) ?_
    simp only [Act.put, List.setIfInBounds_toArray, List.set_cons_zero, List.set_cons_succ]
    have HY := Lib.hid (Nm.new u3 Y)
    have HX := Lib.hid (HX.out.alloc (.cells (nmA (lb Y)) 51))
    have HB : Hid (Below w.heap.size w (u3.alloc (.cells (nmA (lb Y)) 51))) := HB.out.alloc HB.out.size _
    generalize u3.alloc (.cells (nmA (lb Y)) 51) = w4 at HX HY HB ⊢
    generalize u3.heap.size = gy at HY ⊢
    go_upto_region 7 with (fail)
    apply wp_region_lit
    refine Lw.wpList_val rfl (.int .i64 z) w4 (by go_simp) ?_
    refine wpList_load_row rfl 51 _ rfl gx (by kernel_rfl) 51 (nmA (lb X)) (0, 0) _ HX.out Try.underlying51 rfl (by kernel_rfl) ?_
    refine wpList_load_row rfl 51 _ rfl gy (by kernel_rfl) 51 (nmA (lb Y)) (0, 0) _ HY.out Try.underlying51 rfl (by kernel_rfl) ?_
    simp only [Act.put, List.setIfInBounds_toArray, List.set_cons_zero, List.set_cons_succ]
    refine Lw.wpList_callTo (some 38) rfl rfl 23 _ _ rfl (fun _ _ => by go_simp) #[.int .i64 z, nmV X, nmV Y] (by kernel_rfl) ?_
    refine (HAd.out _).mono ?_
    rintro e u5 ⟨rfl, hb⟩
    refine ⟨_, rfl, ?_⟩
    have HB := Lib.hid (Lw.go_on HB.out hb)
    clear hb
    simp only [Act.put, List.setIfInBounds_toArray, List.set_cons_zero, List.set_cons_succ]
    refine Lw.wpList_callTo (some 39) rfl rfl 22 _ _ rfl (fun _ _ => by go_simp) #[nmV R] (by kernel_rfl) ?_
    refine (HPu.out _).mono ?_
    rintro e u6 ⟨rfl, hb⟩
    refine ⟨_, rfl, ?_⟩
    have HB := Lib.hid (Lw.go_on HB.out hb)
    clear hb
    simp only [Act.put, List.setIfInBounds_toArray, List.set_cons_zero, List.set_cons_succ]
    go_wp2_with (fail)
    go_ret2
    exact ⟨rfl, HB.out⟩
  · rw [if_neg h0]
    have q0 : (how == 0) = false := by simpa using h0
    by_cases h1 : how = 1
    · rw [if_pos h1]
      subst h1
      have HPu := Lib.hid (fun u => put_any ((X + md z - Y) % md z) u)
      generalize (X + md z - Y) % md z = R at HPu HSu ⊢
      clear h0 q0
      go_enter Try.func9, Try.ntmps9
      have HB : Hid (Below w.heap.size w w) := Below.refl _ _
      go_upto_region 1 with (fail)
      apply wp_region_lit
      refine Lw.wpList_val rfl (.int .i64 z) w (by go_simp) ?_
      refine Lw.wpList_val rfl (.string a) w (by go_simp) ?_
      simp only [Act.put, List.setIfInBounds_toArray, List.set_cons_zero, List.set_cons_succ]
      refine Lw.wpList_callTo (some 17) rfl rfl 21 _ _ rfl (fun _ _ => by go_simp) #[.int .i64 z, .string a] (by kernel_rfl) ?_
      refine (HA.out _).mono ?_
      rintro e u1 ⟨rfl, hb⟩
      refine ⟨_, rfl, ?_⟩
      have HB := Lib.hid (Lw.go_on HB.out hb)
      clear hb
      refine Lw.wpList_val rfl (.tuple #[nmV X, .bool true]) u1 (by go_simp) ?_
      refine Lw.wpList_val rfl (nmV X) u1 (by go_simp) ?_
      refine Lw.wpList_val rfl (.bool true) u1 (by go_simp) ?_
      refine wpList_alloc_to rfl 51 rfl (nmA fun _ => 0) u1.heap.size rfl alloc8 ?_
      refine wpList_store_row rfl 51 _ _ rfl u1.heap.size (nmA (lb X)) (by kernel_rfl) (by kernel_rfl) 51 _ (heap_alloc_last _ _) (by kernel_rfl) (by rw [nmA_size, nmA_size]) (nmA_one _) ?_
      rw [World.setRow_alloc_new]
      refine Lw.wpList_val rfl (.bool true) (u1.alloc (.cells (nmA (lb X)) 51)) (by go_simp) ?_
      simp only [Act.put, List.setIfInBounds_toArray, List.set_cons_zero, List.set_cons_succ]
      have HX := Lib.hid (Nm.new u1 X)
      have HB : Hid (Below w.heap.size w (u1.alloc (.cells (nmA (lb X)) 51))) := HB.out.alloc HB.out.size _
      generalize u1.alloc (.cells (nmA (lb X)) 51) = w2 at HX HB ⊢
      generalize u1.heap.size = gx at HX ⊢
      go_upto_region 2 with (fail)
      apply wp_region_lit
      refine Lw.wpList_val rfl (.int .i64 z) w2 (by go_simp) ?_
      refine Lw.wpList_val rfl (.string b) w2 (by go_simp) ?_
      simp only [Act.put, List.setIfInBounds_toArray, List.set_cons_zero, List.set_cons_succ]
      refine Lw.wpList_callTo (some 23) rfl rfl 21 _ _ rfl (fun _ _ => by go_simp) #[.int .i64 z, .string b] (by kernel_rfl) ?_
      refine (HBn.out _).mono ?_
      rintro e u3 ⟨rfl, hb⟩
      refine ⟨_, rfl, ?_⟩
      have HX := Lib.hid (HX.out.on hb)
      have HB := Lib.hid (Lw.go_on HB.out hb)
      clear hb
      refine Lw.wpList_val rfl (.tuple #[nmV Y, .bool true]) u3 (by go_simp) ?_
      refine Lw.wpList_val rfl (nmV Y) u3 (by go_simp) ?_
      refine Lw.wpList_val rfl (.bool true) u3 (by go_simp) ?_
      refine wpList_alloc_to rfl 51 rfl (nmA fun _ => 0) u3.heap.size rfl alloc8 ?_
      refine wpList_store_row rfl 51 _ _ rfl u3.heap.size (nmA (lb Y)) (by kernel_rfl) (by kernel_rfl) 51 _ (heap_alloc_last _ _) (by kernel_rfl) (by rw [nmA_size, nmA_size]) (nmA_one _) ?_
      rw [World.setRow_alloc_new]
      refine Lw.wpList_val rfl (.bool true) (u3.alloc (.cells (nmA (lb Y)) 51)) (by go_simp) ?_
      simp only [Act.put, List.setIfInBounds_toArray, List.set_cons_zero, List.set_cons_succ]
      have HY := Lib.hid (Nm.new u3 Y)
      have HX := Lib.hid (HX.out.alloc (.cells (nmA (lb Y)) 51))
      have HB : Hid (Below w.heap.size w (u3.alloc (.cells (nmA (lb Y)) 51))) := HB.out.alloc HB.out.size _
      generalize u3.alloc (.cells (nmA (lb Y)) 51) = w4 at HX HY HB ⊢
      generalize u3.heap.size = gy at HY ⊢
      go_upto_region 9 with (fail)
      apply wp_region_lit
      refine Lw.wpList_val rfl (.int .i64 z) w4 (by go_simp) ?_
      refine wpList_load_row rfl 51 _ rfl gx (by kernel_rfl) 51 (nmA (lb X)) (0, 0) _ HX.out Try.underlying51 rfl (by kernel_rfl) ?_
      refine wpList_load_row rfl 51 _ rfl gy (by kernel_rfl) 51 (nmA (lb Y)) (0, 0) _ HY.out Try.underlying51 rfl (by kernel_rfl) ?_
      simp only [Act.put, List.setIfInBounds_toArray, List.set_cons_zero, List.set_cons_succ]
      refine Lw.wpList_callTo (some 45) rfl rfl 24 _ _ rfl (fun _ _ => by go_simp) #[.int .i64 z, nmV X, nmV Y] (by kernel_rfl) ?_
      refine (HSu.out _).mono ?_
      rintro e u5 ⟨rfl, hb⟩
      refine ⟨_, rfl, ?_⟩
      have HB := Lib.hid (Lw.go_on HB.out hb)
      clear hb
      simp only [Act.put, List.setIfInBounds_toArray, List.set_cons_zero, List.set_cons_succ]
      refine Lw.wpList_callTo (some 46) rfl rfl 22 _ _ rfl (fun _ _ => by go_simp) #[nmV R] (by kernel_rfl) ?_
      refine (HPu.out _).mono ?_
      rintro e u6 ⟨rfl, hb⟩
      refine ⟨_, rfl, ?_⟩
      have HB := Lib.hid (Lw.go_on HB.out hb)
      clear hb
      simp only [Act.put, List.setIfInBounds_toArray, List.set_cons_zero, List.set_cons_succ]
      go_wp2_with (fail)
      go_ret2
      exact ⟨rfl, HB.out⟩
    · rw [if_neg h1]
      have q1 : (how == 1) = false := by simpa using h1
      have HPu := Lib.hid (fun u => put_any (X * Y % md z) u)
      generalize X * Y % md z = R at HPu HMu ⊢
      clear h0 h1
      go_enter Try.func9, Try.ntmps9
      have HB : Hid (Below w.heap.size w w) := Below.refl _ _
      go_upto_region 1 with (fail)
      apply wp_region_lit
      refine Lw.wpList_val rfl (.int .i64 z) w (by go_simp) ?_
      refine Lw.wpList_val rfl (.string a) w (by go_simp) ?_
      simp only [Act.put, List.setIfInBounds_toArray, List.set_cons_zero, List.set_cons_succ]
      refine Lw.wpList_callTo (some 17) rfl rfl 21 _ _ rfl (fun _ _ => by go_simp) #[.int .i64 z, .string a] (by kernel_rfl) ?_
      refine (HA.out _).mono ?_
      rintro e u1 ⟨rfl, hb⟩
      refine ⟨_, rfl, ?_⟩
      have HB := Lib.hid (Lw.go_on HB.out hb)
      clear hb
      refine Lw.wpList_val rfl (.tuple #[nmV X, .bool true]) u1 (by go_simp) ?_
      refine Lw.wpList_val rfl (nmV X) u1 (by go_simp) ?_
      refine Lw.wpList_val rfl (.bool true) u1 (by go_simp) ?_
      refine wpList_alloc_to rfl 51 rfl (nmA fun _ => 0) u1.heap.size rfl alloc8 ?_
      refine wpList_store_row rfl 51 _ _ rfl u1.heap.size (nmA (lb X)) (by kernel_rfl) (by kernel_rfl) 51 _ (heap_alloc_last _ _) (by kernel_rfl) (by rw [nmA_size, nmA_size]) (nmA_one _) ?_
      rw [World.setRow_alloc_new]
      refine Lw.wpList_val rfl (.bool true) (u1.alloc (.cells (nmA (lb X)) 51)) (by go_simp) ?_
      simp only [Act.put, List.setIfInBounds_toArray, List.set_cons_zero, List.set_cons_succ]
      have HX := Lib.hid (Nm.new u1 X)
      have HB : Hid (Below w.heap.size w (u1.alloc (.cells (nmA (lb X)) 51))) := HB.out.alloc HB.out.size _
      generalize u1.alloc (.cells (nmA (lb X)) 51) = w2 at HX HB ⊢
      generalize u1.heap.size = gx at HX ⊢
      go_upto_region 2 with (fail)
      apply wp_region_lit
      refine Lw.wpList_val rfl (.int .i64 z) w2 (by go_simp) ?_
      refine Lw.wpList_val rfl (.string b) w2 (by go_simp) ?_
      simp only [Act.put, List.setIfInBounds_toArray, List.set_cons_zero, List.set_cons_succ]
      refine Lw.wpList_callTo (some 23) rfl rfl 21 _ _ rfl (fun _ _ => by go_simp) #[.int .i64 z, .string b] (by kernel_rfl) ?_
      refine (HBn.out _).mono ?_
      rintro e u3 ⟨rfl, hb⟩
      refine ⟨_, rfl, ?_⟩
      have HX := Lib.hid (HX.out.on hb)
      have HB := Lib.hid (Lw.go_on HB.out hb)
      clear hb
      refine Lw.wpList_val rfl (.tuple #[nmV Y, .bool true]) u3 (by go_simp) ?_
      refine Lw.wpList_val rfl (nmV Y) u3 (by go_simp) ?_
      refine Lw.wpList_val rfl (.bool true) u3 (by go_simp) ?_
      refine wpList_alloc_to rfl 51 rfl (nmA fun _ => 0) u3.heap.size rfl alloc8 ?_
      refine wpList_store_row rfl 51 _ _ rfl u3.heap.size (nmA (lb Y)) (by kernel_rfl) (by kernel_rfl) 51 _ (heap_alloc_last _ _) (by kernel_rfl) (by rw [nmA_size, nmA_size]) (nmA_one _) ?_
      rw [World.setRow_alloc_new]
      refine Lw.wpList_val rfl (.bool true) (u3.alloc (.cells (nmA (lb Y)) 51)) (by go_simp) ?_
      simp only [Act.put, List.setIfInBounds_toArray, List.set_cons_zero, List.set_cons_succ]
      have HY := Lib.hid (Nm.new u3 Y)
      have HX := Lib.hid (HX.out.alloc (.cells (nmA (lb Y)) 51))
      have HB : Hid (Below w.heap.size w (u3.alloc (.cells (nmA (lb Y)) 51))) := HB.out.alloc HB.out.size _
      generalize u3.alloc (.cells (nmA (lb Y)) 51) = w4 at HX HY HB ⊢
      generalize u3.heap.size = gy at HY ⊢
      go_upto_region 10 with (fail)
      apply wp_region_lit
      refine Lw.wpList_val rfl (.int .i64 z) w4 (by go_simp) ?_
      refine wpList_load_row rfl 51 _ rfl gx (by kernel_rfl) 51 (nmA (lb X)) (0, 0) _ HX.out Try.underlying51 rfl (by kernel_rfl) ?_
      refine wpList_load_row rfl 51 _ rfl gy (by kernel_rfl) 51 (nmA (lb Y)) (0, 0) _ HY.out Try.underlying51 rfl (by kernel_rfl) ?_
      simp only [Act.put, List.setIfInBounds_toArray, List.set_cons_zero, List.set_cons_succ]
      refine Lw.wpList_callTo (some 50) rfl rfl 25 _ _ rfl (fun _ _ => by go_simp) #[.int .i64 z, nmV X, nmV Y] (by kernel_rfl) ?_
      refine (HMu.out _).mono ?_
      rintro e u5 ⟨rfl, hb⟩
      refine ⟨_, rfl, ?_⟩
      have HB := Lib.hid (Lw.go_on HB.out hb)
      clear hb
      simp only [Act.put, List.setIfInBounds_toArray, List.set_cons_zero, List.set_cons_succ]
      refine Lw.wpList_callTo (some 51) rfl rfl 22 _ _ rfl (fun _ _ => by go_simp) #[nmV R] (by kernel_rfl) ?_
      refine (HPu.out _).mono ?_
      rintro e u6 ⟨rfl, hb⟩
      refine ⟨_, rfl, ?_⟩
      have HB := Lib.hid (Lw.go_on HB.out hb)
      clear hb
      simp only [Act.put, List.setIfInBounds_toArray, List.set_cons_zero, List.set_cons_succ]
      go_wp2_with (fail)
      go_ret2
      exact ⟨rfl, HB.out⟩
theorem calc_any (how z : Int) (a b : ByteArray) (w : World) : Calls Try.prog 9 #[.int .i64 how, .int .i64 z, .string a, .string b] w fun e w' => e = .returned (.tuple #[.string (c9S how z a b), .int .i64 (c9E z a b)]) ∧ Below w.heap.size w w' := by
  unfold c9S c9E
  cases h : c9Ok z a b
  · exact calc_no how z a b w h
  · exact calc_ok how z a b w h
end Go.Proofs.Nu
