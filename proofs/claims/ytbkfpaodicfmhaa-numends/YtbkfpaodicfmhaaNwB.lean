/-
  For layer 9's laws: any bytes as a number below a modulus.
-/
import Derived.Test.YtbkfpaodicfmhaaNwA
namespace Go.Proofs.Nw
open Go.RowKit Go.Proofs.Nu
open Go.Proofs.Nt
open Go.Proofs.Im (wpList_box_to words_heap words_one run_index_row)
open Go.Proofs.Sha (wordCells wordCells_get wordCells_size rowIs_of wpList_alloc_to wpList_build_to)
open Go.Proofs.Aes (byt byt_lt get_byt)
/-- The bytes taken so far, the first one last. -/
def rb (s : ByteArray) (i t : Nat) : Nat := if 31 - t < i ∧ t < 32 then byt s (31 - t) else 0
theorem rb_lt (s : ByteArray) (i t : Nat) : rb s i t < 256 := by unfold rb; split; exact byt_lt _ _; decide
/-- The first byte without its highest bit; without any. -/
def rc (s : ByteArray) (t : Nat) : Nat := if t = 0 then rb s (min 32 s.size) 0 % 128 else rb s (min 32 s.size) t
def r0 (s : ByteArray) (t : Nat) : Nat := if t = 0 then 0 else rc s t
theorem rc_lt (s : ByteArray) (t : Nat) : rc s t < 256 := by
  unfold rc
  split
  · have := Nat.mod_lt (rb s (min 32 s.size) 0) (show 128 > 0 by decide); omega
  · exact rb_lt _ _ _
theorem r0_lt (s : ByteArray) (t : Nat) : r0 s t < 256 := by unfold r0; split; decide; exact rc_lt s t
def redS (z : Int) (s : ByteArray) : ByteArray := bif numOk z (Lw.pieceS (rc s) 0 32) then Lw.pieceS (rc s) 0 32 else Lw.pieceS (r0 s) 0 32
theorem md_big (z : Int) : 256 ^ 31 < md z := by
  unfold md
  split
  · decide
  · split <;> decide
theorem redS_ok (z : Int) (s : ByteArray) (h : 0 ≤ z ∧ z ≤ 2) : numOk z (redS z s) = true := by
  unfold redS
  cases hc : numOk z (Lw.pieceS (rc s) 0 32)
  · show numOk z (Lw.pieceS (r0 s) 0 32) = true
    refine (numOk_iff _ _).2 ⟨h, Lw.pieceS_size _ _ _, ?_⟩
    have e := bg_add (Lw.pieceS (r0 s) 0 32) 0 1 31
    have e1 : bg (Lw.pieceS (r0 s) 0 32) 0 1 = 0 := by
      show 0 * 256 + byt (Lw.pieceS (r0 s) 0 32) (0 + 0) = 0
      rw [Lw.byt_piece (r0 s) 0 32 0 (by decide) (r0_lt s)]
      rfl
    rw [e1, Nat.zero_mul, Nat.zero_add, Nat.zero_add] at e
    unfold bn
    rw [show bg (Lw.pieceS (r0 s) 0 32) 0 32 = bg (Lw.pieceS (r0 s) 0 32) 1 31 from e]
    exact Nat.lt_trans (bg_lt _ _ _) (md_big z)
  · exact hc
theorem and127 (x : Nat) (h : x < 256) : bits .and .u8 (x : Int) 127 = ((x % 128 : Nat) : Int) := by
  have h1 := u8_and_nat x 127 h (by decide)
  rw [show 127 = 2 ^ 7 - 1 from rfl, Nat.and_two_pow_sub_one_eq_mod] at h1
  exact h1
set_option maxHeartbeats 2000000 in
set_option maxRecDepth 20000 in
theorem reduced_any (z : Int) (s : ByteArray) (w : World) : Calls Try.prog 16 #[.int .i64 z, .string s] w fun e w' => e = .returned (.string (redS z s)) ∧ Below w.heap.size w w' := by
  obtain ⟨M, hM, hMc, hmk0⟩ := Lw.zeros 32 (by decide)
  have hmk : ∀ W : World, (Instr.makeSlice 36 (.int .i64 32) (.int .i64 32)).run Try.prog W = .ok (.slice (some ⟨W.heap.size, 0, none⟩) 32 32) (W.alloc (.cells M 5)) := hmk0
  have HR : Hid (Lw.RowB (w.alloc (.cells M 5)) w.heap.size 32 (fun _ => 0)) := Lw.rowB_new w M 32 hM hMc
  have HB : Hid (Below w.heap.size w (w.alloc (.cells M 5))) := (Below.refl _ _).alloc (Nat.le_refl _) _
  have HNu := Lib.hid (fun b u => number_any z b u)
  clear hmk0 hM hMc
  go_enter Try.func16, Try.ntmps16
  go_upto_region 2 with (fail)
  clear hmk
  generalize w.alloc (.cells M 5) = w2 at HR HB ⊢
  go_wp2_with (fail)
  go_loopw [6] (fun v wx => ∃ i : Nat, Hid (i ≤ min 32 s.size) ∧ v = .int .i64 i ∧ Hid (Lw.RowB wx w.heap.size 32 (rb s i)) ∧ Hid (Below w.heap.size w wx)) (fun v _ => 32 - (intOf v).toNat)
  case atStart => exact ⟨0, Nat.zero_le _, rfl, HR.out.congr fun t _ => by unfold rb; rw [if_neg (by omega)], HB⟩
  case round =>
    clear HR HB
    obtain ⟨i, hi, rfl, HR, HB⟩ := hrel
    by_cases hlt : i < 32 ∧ i < s.size
    · have il : ((i : Int) < 32) = True := eq_true (by omega)
      have il' : (i : Int) < 32 := by omega
      have js : ((i : Int) < (s.size : Int)) = True := eq_true (by omega)
      have js' : (i : Int) < (s.size : Int) := by omega
      have jn : i < s.size := hlt.2
      have HI := Lib.hid hlt
      obtain ⟨t, ht⟩ : ∃ t, 31 - i = t := ⟨_, rfl⟩
      have t32' : t < 32 := by omega
      have t1 : (31 : Int) - (i : Int) = (t : Int) := by omega
      have t2 : (t : Int) < 32 := by omega
      have yc := World.rowIs.cell HR.out (i := t) t32'
      have yf := World.rowIs.frozen HR.out t
      have v0 : ∀ h : i < s.size, (s[i]'h).toNat = byt s i := fun h => get_byt s _ h
      clear hlt
      go_wp2_with (fail)
      refine ⟨⟨i + 1, by have := HI.out; show i + 1 ≤ min 32 s.size; omega, by go_num, (HR.out.set t (byt s i)).congr fun r hr => ?_, HB.out.setCell (Nat.le_refl _) _⟩, Lw.meas 32 i HI.out.1⟩
      have hi8 := HI.out
      have htt : t = 31 - i := by omega
      unfold rb
      by_cases h : r = t
      · rw [if_pos h, if_pos (by omega), h, show 31 - t = i by omega]
      · rw [if_neg h]
        by_cases h2 : 31 - r < i ∧ r < 32
        · rw [if_pos h2, if_pos (by omega)]
        · rw [if_neg h2, if_neg (by omega)]
    · obtain rfl : i = min 32 s.size := by have := hi.out; omega
      clear hi
      have yc := World.rowIs.cell HR.out (i := 0) (by decide)
      have yf := World.rowIs.frozen HR.out 0
      have l0 := rb_lt s (min 32 s.size) 0
      have hc0 : rc s 0 = rb s (min 32 s.size) 0 % 128 := if_pos rfl
      have HRc : Hid (∀ r, (if r = 0 then rb s (min 32 s.size) 0 % 128 else rb s (min 32 s.size) r) = rc s r) := fun r => rfl
      generalize hmn : min 32 s.size = n at HR yc l0 hc0 HRc hlt ⊢
      generalize rb s n 0 = x0 at yc l0 hc0 HRc
      have a1 := and127 x0 l0
      by_cases h32 : n < 32
      · have il : ((n : Int) < 32) = True := eq_true (by omega)
        have js : ((n : Int) < (s.size : Int)) = False := eq_false (by omega)
        clear hlt h32 hmn
        go_upto_region 7 with (fail)
        rw [show (x0 : Int) % 128 = ((x0 % 128 : Nat) : Int) by omega]
        have HR : Hid (Lw.RowB (wr.setCell ⟨w.heap.size, 0, none⟩ (.int .u8 ((x0 % 128 : Nat) : Int))) w.heap.size 32 (rc s)) := (HR.out.set 0 (x0 % 128)).congr fun r _ => HRc.out r
        have HB : Hid (Below w.heap.size w (wr.setCell ⟨w.heap.size, 0, none⟩ (.int .u8 ((x0 % 128 : Nat) : Int)))) := HB.out.setCell (Nat.le_refl _) _
        clear yc yf a1 HRc hc0
        generalize wr.setCell ⟨w.heap.size, 0, none⟩ (.int .u8 ((x0 % 128 : Nat) : Int)) = w5 at HR HB ⊢
        have hct := HR.out.text 0 32 32 (by decide)
        apply wp_region_lit
        refine Lw.wpList_val rfl (.int .i64 z) w5 (by go_simp) ?_
        refine Lw.wpList_val rfl (.slice (some ⟨w.heap.size, 0, none⟩) 32 32) w5 (by go_simp) ?_
        refine Lw.wpList_val rfl (.string (Lw.pieceS (rc s) 0 32)) w5 (by go_simp) ?_
        simp only [Act.put, List.setIfInBounds_toArray, List.set_cons_zero, List.set_cons_succ]
        refine Lw.wpList_callTo (some 37) rfl rfl 21 _ _ rfl (fun _ _ => by go_simp) #[.int .i64 z, .string (Lw.pieceS (rc s) 0 32)] (by kernel_rfl) ?_
        refine (HNu.out _ _).mono ?_
        rintro e u6 ⟨rfl, hb⟩
        refine ⟨_, rfl, ?_⟩
        have HR := Lib.hid (HR.out.on hb)
        have HB := Lib.hid (Lw.go_on HB.out hb)
        clear hb hct
        have HE : Hid ((bif numOk z (Lw.pieceS (rc s) 0 32) then Lw.pieceS (rc s) 0 32 else Lw.pieceS (r0 s) 0 32) = redS z s) := rfl
        generalize numX z (Lw.pieceS (rc s) 0 32) = X
        generalize numOk z (Lw.pieceS (rc s) 0 32) = ok at HE ⊢
        refine Lw.wpList_val rfl (.tuple #[nmV X, .bool ok]) u6 (by go_simp) ?_
        refine Lw.wpList_val rfl (nmV X) u6 (by go_simp) ?_
        refine Lw.wpList_val rfl (.bool ok) u6 (by go_simp) ?_
        refine wpList_alloc_to rfl 51 rfl (nmA fun _ => 0) u6.heap.size rfl alloc8 ?_
        refine wpList_store_row rfl 51 _ _ rfl u6.heap.size (nmA (lb X)) (by kernel_rfl) (by kernel_rfl) 51 _ (heap_alloc_last _ _) (by kernel_rfl) (by rw [nmA_size, nmA_size]) (nmA_one _) ?_
        rw [World.setRow_alloc_new]
        refine Lw.wpList_val rfl (.bool ok) (u6.alloc (.cells (nmA (lb X)) 51)) (by go_simp) ?_
        simp only [Act.put, List.setIfInBounds_toArray, List.set_cons_zero, List.set_cons_succ]
        have HR : Hid (Lw.RowB (u6.alloc (.cells (nmA (lb X)) 51)) w.heap.size 32 (rc s)) := World.rowIs.alloc HR.out _
        have HB : Hid (Below w.heap.size w (u6.alloc (.cells (nmA (lb X)) 51))) := HB.out.alloc HB.out.size _
        generalize u6.alloc (.cells (nmA (lb X)) 51) = w7 at HR HB ⊢
        cases ok
        · have yc := World.rowIs.cell HR.out (i := 0) (by decide)
          have yf := World.rowIs.frozen HR.out 0
          go_upto_region 10 with (fail)
          have HR : Hid (Lw.RowB (w7.setCell ⟨w.heap.size, 0, none⟩ (.int .u8 ((0 : Nat) : Int))) w.heap.size 32 (r0 s)) := (HR.out.set 0 0).congr fun r _ => rfl
          have HB : Hid (Below w.heap.size w (w7.setCell ⟨w.heap.size, 0, none⟩ (.int .u8 ((0 : Nat) : Int)))) := HB.out.setCell (Nat.le_refl _) _
          rw [show ((0 : Nat) : Int) = 0 from rfl] at HR HB
          clear yc yf
          generalize w7.setCell ⟨w.heap.size, 0, none⟩ (.int .u8 0) = w8 at HR HB ⊢
          have hct := HR.out.text 0 32 32 (by decide)
          have he : Lw.pieceS (r0 s) 0 32 = redS z s := HE.out
          rw [he] at hct
          go_wp2_with (fail)
          go_ret
          exact ⟨rfl, HB.out⟩
        · have hct := HR.out.text 0 32 32 (by decide)
          have he : Lw.pieceS (rc s) 0 32 = redS z s := HE.out
          rw [he] at hct
          go_wp2_with (fail)
          go_ret
          exact ⟨rfl, HB.out⟩
      · have il : ((n : Int) < 32) = False := eq_false (by omega)
        clear hlt h32 hmn
        go_upto_region 7 with (fail)
        rw [show (x0 : Int) % 128 = ((x0 % 128 : Nat) : Int) by omega]
        have HR : Hid (Lw.RowB (wr.setCell ⟨w.heap.size, 0, none⟩ (.int .u8 ((x0 % 128 : Nat) : Int))) w.heap.size 32 (rc s)) := (HR.out.set 0 (x0 % 128)).congr fun r _ => HRc.out r
        have HB : Hid (Below w.heap.size w (wr.setCell ⟨w.heap.size, 0, none⟩ (.int .u8 ((x0 % 128 : Nat) : Int)))) := HB.out.setCell (Nat.le_refl _) _
        clear yc yf a1 HRc hc0
        generalize wr.setCell ⟨w.heap.size, 0, none⟩ (.int .u8 ((x0 % 128 : Nat) : Int)) = w5 at HR HB ⊢
        have hct := HR.out.text 0 32 32 (by decide)
        apply wp_region_lit
        refine Lw.wpList_val rfl (.int .i64 z) w5 (by go_simp) ?_
        refine Lw.wpList_val rfl (.slice (some ⟨w.heap.size, 0, none⟩) 32 32) w5 (by go_simp) ?_
        refine Lw.wpList_val rfl (.string (Lw.pieceS (rc s) 0 32)) w5 (by go_simp) ?_
        simp only [Act.put, List.setIfInBounds_toArray, List.set_cons_zero, List.set_cons_succ]
        refine Lw.wpList_callTo (some 37) rfl rfl 21 _ _ rfl (fun _ _ => by go_simp) #[.int .i64 z, .string (Lw.pieceS (rc s) 0 32)] (by kernel_rfl) ?_
        refine (HNu.out _ _).mono ?_
        rintro e u6 ⟨rfl, hb⟩
        refine ⟨_, rfl, ?_⟩
        have HR := Lib.hid (HR.out.on hb)
        have HB := Lib.hid (Lw.go_on HB.out hb)
        clear hb hct
        have HE : Hid ((bif numOk z (Lw.pieceS (rc s) 0 32) then Lw.pieceS (rc s) 0 32 else Lw.pieceS (r0 s) 0 32) = redS z s) := rfl
        generalize numX z (Lw.pieceS (rc s) 0 32) = X
        generalize numOk z (Lw.pieceS (rc s) 0 32) = ok at HE ⊢
        refine Lw.wpList_val rfl (.tuple #[nmV X, .bool ok]) u6 (by go_simp) ?_
        refine Lw.wpList_val rfl (nmV X) u6 (by go_simp) ?_
        refine Lw.wpList_val rfl (.bool ok) u6 (by go_simp) ?_
        refine wpList_alloc_to rfl 51 rfl (nmA fun _ => 0) u6.heap.size rfl alloc8 ?_
        refine wpList_store_row rfl 51 _ _ rfl u6.heap.size (nmA (lb X)) (by kernel_rfl) (by kernel_rfl) 51 _ (heap_alloc_last _ _) (by kernel_rfl) (by rw [nmA_size, nmA_size]) (nmA_one _) ?_
        rw [World.setRow_alloc_new]
        refine Lw.wpList_val rfl (.bool ok) (u6.alloc (.cells (nmA (lb X)) 51)) (by go_simp) ?_
        simp only [Act.put, List.setIfInBounds_toArray, List.set_cons_zero, List.set_cons_succ]
        have HR : Hid (Lw.RowB (u6.alloc (.cells (nmA (lb X)) 51)) w.heap.size 32 (rc s)) := World.rowIs.alloc HR.out _
        have HB : Hid (Below w.heap.size w (u6.alloc (.cells (nmA (lb X)) 51))) := HB.out.alloc HB.out.size _
        generalize u6.alloc (.cells (nmA (lb X)) 51) = w7 at HR HB ⊢
        cases ok
        · have yc := World.rowIs.cell HR.out (i := 0) (by decide)
          have yf := World.rowIs.frozen HR.out 0
          go_upto_region 10 with (fail)
          have HR : Hid (Lw.RowB (w7.setCell ⟨w.heap.size, 0, none⟩ (.int .u8 ((0 : Nat) : Int))) w.heap.size 32 (r0 s)) := (HR.out.set 0 0).congr fun r _ => rfl
          have HB : Hid (Below w.heap.size w (w7.setCell ⟨w.heap.size, 0, none⟩ (.int .u8 ((0 : Nat) : Int)))) := HB.out.setCell (Nat.le_refl _) _
          rw [show ((0 : Nat) : Int) = 0 from rfl] at HR HB
          clear yc yf
          generalize w7.setCell ⟨w.heap.size, 0, none⟩ (.int .u8 0) = w8 at HR HB ⊢
          have hct := HR.out.text 0 32 32 (by decide)
          have he : Lw.pieceS (r0 s) 0 32 = redS z s := HE.out
          rw [he] at hct
          go_wp2_with (fail)
          go_ret
          exact ⟨rfl, HB.out⟩
        · have hct := HR.out.text 0 32 32 (by decide)
          have he : Lw.pieceS (rc s) 0 32 = redS z s := HE.out
          rw [he] at hct
          go_wp2_with (fail)
          go_ret
          exact ⟨rfl, HB.out⟩
end Go.Proofs.Nw
