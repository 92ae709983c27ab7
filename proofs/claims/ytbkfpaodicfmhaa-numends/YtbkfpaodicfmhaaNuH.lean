/-
  The document's own answer for layer 9: a number written as a text.
-/
import Derived.Test.YtbkfpaodicfmhaaNuG
namespace Go.Proofs.Nu
open Go.RowKit
open Go.Proofs.Im (wpList_box_to words_heap words_one run_index_row)
open Go.Proofs.Sha (wordCells wordCells_get wordCells_size rowIs_of wpList_alloc_to wpList_build_to)
open Go.Proofs.Nt
open Go.Proofs.Aes (byt byt_lt get_byt)
theorem tb_word (x i : Nat) (hi : i < 32) : lb x (7 - i / 4) / 2 ^ (24 - 8 * (i % 4)) % 256 = tb x i := by
  unfold lb tb
  have e : (256 : Nat) ^ (31 - i) = 2 ^ (32 * (7 - i / 4)) * 2 ^ (24 - 8 * (i % 4)) := by
    rw [show (256 : Nat) = 2 ^ 8 by rfl, ← Nat.pow_mul, ← Nat.pow_add]; congr 1; omega
  rw [e, ← Nat.div_div_eq_div_mul]
  generalize x / 2 ^ (32 * (7 - i / 4)) = y
  have h4 : i % 4 < 4 := Nat.mod_lt _ (by decide)
  generalize i % 4 = r at h4
  match r, h4 with
  | 0, _ => show y % 4294967296 / 16777216 % 256 = y / 16777216 % 256; omega
  | 1, _ => show y % 4294967296 / 65536 % 256 = y / 65536 % 256; omega
  | 2, _ => show y % 4294967296 / 256 % 256 = y / 256 % 256; omega
  | 3, _ => show y % 4294967296 / 1 % 256 = y / 1 % 256; omega
/-- The bytes written so far. -/
def pb (x i t : Nat) : Nat := if t < i then tb x t else 0
set_option maxHeartbeats 2000000 in
set_option maxRecDepth 20000 in
theorem put_any (x : Nat) (w : World) : Calls Try.prog 22 #[nmV x] w fun e w' => e = .returned (.string (t32 x)) ∧ Below w.heap.size w w' := by
  obtain ⟨M, hM, hMc, hmk0⟩ := Lw.zeros 32 (by decide)
  have hmk : ∀ W : World, (Instr.makeSlice 36 (.int .i64 32) (.int .i64 32)).run Try.prog W = .ok (.slice (some ⟨W.heap.size, 0, none⟩) 32 32) (W.alloc (.cells M 5)) := hmk0
  have HMz := Lib.hid hM
  have HMc := Lib.hid hMc
  clear hmk0 hM hMc
  go_enter Try.func22, Try.ntmps22
  go_upto_region 0 with (fail)
  apply wp_region_lit
  refine wpList_box_to rfl 51 _ rfl (nmA (lb x)) (by kernel_rfl) w.heap.size rfl ?_
  have HX := Lib.hid (RN.new w (lb x))
  have HB : Hid (Below w.heap.size w (w.alloc (.cells (nmA (lb x)) 51))) := (Below.refl _ _).alloc (Nat.le_refl _) _
  have hsz : (w.alloc (.cells (nmA (lb x)) 51)).heap.size = w.heap.size + 1 := by simp
  generalize w.alloc (.cells (nmA (lb x)) 51) = w1 at HX HB hsz ⊢
  generalize nmV x = Av
  go_upto_region 2 with (fail)
  have HR : Hid (Lw.RowB (w1.alloc (.cells M 5)) w1.heap.size 32 (fun _ => 0)) := Lw.rowB_new w1 M 32 HMz.out HMc.out
  have HX := Lib.hid (show RN (w1.alloc (.cells M 5)) w.heap.size (lb x) from World.rowIs.alloc HX.out _)
  have HB : Hid (Below w.heap.size w (w1.alloc (.cells M 5))) := HB.out.alloc HB.out.size _
  rw [hsz] at HR
  clear hmk hsz HMz HMc
  generalize w1.alloc (.cells M 5) = w2 at HR HX HB ⊢
  go_wp2_with (fail)
  go_loopw [4] (fun v wx => ∃ i : Nat, Hid (i ≤ 32) ∧ v = .int .i64 i ∧ Hid (Lw.RowB wx (w.heap.size + 1) 32 (pb x i)) ∧ Hid (RN wx w.heap.size (lb x)) ∧ Hid (Below w.heap.size w wx)) (fun v _ => 32 - (intOf v).toNat)
  case atStart => exact ⟨0, Nat.zero_le _, rfl, HR.out.congr fun t _ => by unfold pb; rw [if_neg (by omega)], HX, HB⟩
  case round =>
    clear HR HX HB
    obtain ⟨i, hi, rfl, HR, HX, HB⟩ := hrel
    by_cases hlt : i < 32
    · have il : ((i : Int) < 32) = True := eq_true (by omega)
      have il' : (i : Int) < 32 := by omega
      have HI := Lib.hid hlt
      obtain ⟨j, hj⟩ : ∃ j, 7 - i / 4 = j := ⟨_, rfl⟩
      have hj8 : j < 8 := by omega
      obtain ⟨q, hq⟩ : ∃ q, i / 4 = q := ⟨_, rfl⟩
      obtain ⟨r, hr⟩ : ∃ r, i % 4 = r := ⟨_, rfl⟩
      have t1 : IntKind.i64.wrap ((i : Int) / 4) = (q : Int) := by rw [IntWalk.i64_in _ (by omega)]; omega
      have t2 : IntKind.i64.wrap (7 - (q : Int)) = (j : Int) := by rw [IntWalk.i64_in _ (by omega)]; omega
      have jb : (j : Int) < 8 := by omega
      have xc := HX.out.at_ j (lb x j) hj8 rfl
      have yc := World.rowIs.cell HR.out (i := i) hlt
      have yf := World.rowIs.frozen HR.out i
      have l1 := lb_lt x j
      have HT : Hid (lb x j / 2 ^ (24 - 8 * r) % 256 = tb x i) := by rw [← hj, ← hr]; exact tb_word x i hlt
      generalize lb x j = L at xc l1 HT
      clear hlt hj hj8
      have e1 : bits .and .u32 ((L : Int) / 2 ^ (24 - 8 * r)) 255 % 256 = ((tb x i : Nat) : Int) := by
        have e0 : (L : Int) / 2 ^ (24 - 8 * r) = ((L / 2 ^ (24 - 8 * r) : Nat) : Int) := by rw [Int.natCast_ediv, Int.natCast_pow]; rfl
        have h0 : L / 2 ^ (24 - 8 * r) < 4294967296 := Nat.lt_of_le_of_lt (Nat.div_le_self _ _) l1
        have h1 := u32_and_nat (L / 2 ^ (24 - 8 * r)) 255 h0 (by decide)
        rw [show 255 = 2 ^ 8 - 1 from rfl, Nat.and_two_pow_sub_one_eq_mod] at h1
        rw [e0, show bits .and .u32 ((L / 2 ^ (24 - 8 * r) : Nat) : Int) 255 = ((L / 2 ^ (24 - 8 * r) % 2 ^ 8 : Nat) : Int) from h1]
        have := HT.out
        rw [show (2 : Nat) ^ 8 = 256 from rfl, this]
        have := tb_lt x i
        omega
      go_wp2_with (fail)
      refine ⟨⟨i + 1, HI.out, by go_num, (HR.out.set i (tb x i)).congr fun t ht => ?_, HX.out.other (by simp) _, HB.out.setCell (by simp) _⟩, Lw.meas 32 i HI.out⟩
      unfold pb
      by_cases h : t = i
      · rw [if_pos h, if_pos (by omega), h]
      · rw [if_neg h]
        by_cases h2 : t < i
        · rw [if_pos h2, if_pos (by omega)]
        · rw [if_neg h2, if_neg (by omega)]
    · have il : ((i : Int) < 32) = False := eq_false (by omega)
      obtain rfl : i = 32 := by have := hi.out; omega
      rw [show ((32 : Nat) : Int) = 32 from rfl]
      clear hlt il hi
      have hct := (HR.out.congr (Y := tb x) fun t ht => if_pos ht).text 0 32 32 (by decide)
      go_wp2_with (fail)
      go_ret
      exact ⟨rfl, HB.out⟩
end Go.Proofs.Nu
