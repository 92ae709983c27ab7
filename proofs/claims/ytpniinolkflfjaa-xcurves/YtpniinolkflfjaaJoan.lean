/-
  The developers' numbers: a text of 32 bytes read.
-/
import Derived.Test.YtpniinolkflfjaaJoal
import Derived.Test.YtpniinolkflfjaaJoam
namespace Go.Proofs.Nd
open Go.RowKit
open Go.Proofs.Im (wpList_box_to words_heap words_one run_index_row)
open Go.Proofs.Sha (wordCells wordCells_get wordCells_size rowIs_of wpList_alloc_to wpList_build_to)
open Go.Proofs.Nt
open Go.Proofs.Nu (nmL nmA nmV lt8 nmA_get nmA_congr nmA_one nmA_size results_row_slot B8 b8 nv8 nmA_lb nv_lt8 gw gw_zero gw_next gw_lt gw_cur gw_end or_u32)
open Go.Proofs.Aes (byt byt_lt get_byt)
/-- A word's place, and a result's. -/
def Dup (w u : World) (d : Nat → Nat) : Prop := RP u (w.heap.size + 1) d ∧ RP u w.heap.size (fun _ => 0) ∧ Below w.heap.size w u
theorem dup_new (w : World) : Dup w ((w.alloc (.cells (nmA fun _ => 0) 38)).alloc (.cells (nmA fun _ => 0) 38)) (fun _ => 0) := by
  have s1 : (w.alloc (.cells (nmA fun _ => 0) 38)).heap.size = w.heap.size + 1 := by simp
  have h1 := RP.new w (fun _ => 0)
  have b1 : Below w.heap.size w (w.alloc (.cells (nmA fun _ => 0) 38)) := (Below.refl _ _).alloc (Nat.le_refl _) _
  generalize w.alloc (.cells (nmA fun _ => 0) 38) = w1 at s1 h1 b1 ⊢
  have h2 := RP.new w1 (fun _ => 0)
  rw [s1] at h2
  exact ⟨h2, World.rowIs.alloc h1 _, b1.alloc (by omega) _⟩
theorem Dup.set {w u : World} {d : Nat → Nat} (h : Dup w u d) (j v : Nat) : Dup w (u.setCell ⟨w.heap.size + 1, j, none⟩ (.int .u32 v)) (fun i => if i = j then v else d i) :=
  ⟨h.1.set j v, h.2.1.other (by simp) _, h.2.2.setCell (by simp) _⟩
theorem Dup.congr {w u : World} {d e : Nat → Nat} (h : Dup w u d) (he : ∀ i, i < 8 → d i = e i) : Dup w u e := ⟨h.1.congr he, h.2⟩
theorem Dup.drewN {w u : World} {d : Nat → Nat} (m : Dup w u d) (q : Nat) : Dup w (u.drewN q) d := ⟨m.1, m.2.1, Lw.below_drewN m.2.2 q⟩
set_option maxHeartbeats 2000000 in
set_option maxRecDepth 20000 in
theorem number_any (s : ByteArray) (w : World) (hs : s.size = 32) :
    Calls Try.prog 41 #[.string s] w fun e w' => e = .returned (nmV (bn s)) ∧ Below w.heap.size w w' := by
  have hE : nmV (bn s) = .agg (nmA (gw s 32)) := by
    unfold nmV
    rw [← gw_end, ← nmA_lb (gw_lt s 32)]
  rw [hE]
  have HSz := Lib.hid hs
  clear hE hs
  go_enter Try.func41, Try.ntmps41
  go_upto_region 0 with (fail)
  apply wp_region_lit
  refine wpList_alloc_to rfl 38 rfl (nmA fun _ => 0) w.heap.size rfl alloc8 ?_
  go_upto_region 1 with (fail)
  apply wp_region_lit
  refine wpList_alloc_to rfl 38 rfl (nmA fun _ => 0) (w.heap.size + 1) (by simp) alloc8 ?_
  simp only [Act.put, List.setIfInBounds_toArray, List.set_cons_zero, List.set_cons_succ]
  have HM := Lib.hid (dup_new w)
  generalize (w.alloc (.cells (nmA fun _ => 0) 38)).alloc (.cells (nmA fun _ => 0) 38) = w1 at HM ⊢
  go_wp2_with (fail)
  go_loopw [6] (fun v wx => ∃ i : Nat, Hid (i ≤ 32) ∧ v = .int .i64 i ∧ Hid (Dup w wx (gw s i))) (fun v _ => 32 - (intOf v).toNat)
  case atStart => exact ⟨0, Nat.zero_le _, rfl, HM.out.congr fun j _ => gw_zero s j⟩
  case round =>
    clear HM
    obtain ⟨i, hi, rfl, HM⟩ := hrel
    by_cases hlt : i < 32
    · have il : ((i : Int) < 32) = True := eq_true (by omega)
      have il' : (i : Int) < 32 := by omega
      have HI := Lib.hid hlt
      obtain ⟨j, hj⟩ : ∃ j, 7 - i / 4 = j := ⟨_, rfl⟩
      have hj8 : j < 8 := by omega
      obtain ⟨q, hq⟩ : ∃ q, i / 4 = q := ⟨_, rfl⟩
      have t1 : IntKind.i64.wrap ((i : Int) / 4) = (q : Int) := by rw [IntWalk.i64_in _ (by omega)]; omega
      have t2 : IntKind.i64.wrap (7 - (q : Int)) = (j : Int) := by rw [IntWalk.i64_in _ (by omega)]; omega
      have jb : (j : Int) < 8 := by omega
      have xc := HM.out.1.at_ j (gw s i j) hj8 rfl
      have xf := World.rowIs.frozen HM.out.1 j
      have l1 : gw s i j < 16777216 := by rw [← hj]; exact gw_cur s i hlt
      have l2 := byt_lt s i
      have hs' : i < s.size := by have := HSz.out; omega
      have v0 : ∀ h : i < s.size, (s[i]'h).toNat = byt s i := fun h => get_byt s _ h
      have HN : Hid (∀ k, k < 8 → (if k = j then gw s i j * 256 + byt s i else gw s i k) = gw s (i + 1) k) := fun k hk => by have := gw_next s i k HI.out hk; rw [hj] at this; exact this
      generalize gw s i j = x at xc l1 HN
      generalize byt s i = y at l2 v0 HN
      have o1 := or_u32 x y l1 l2
      clear hlt hj hj8 hq
      go_wp2_with (fail)
      go_still_tail 11, (by kernel_rfl)
      change wpList _ _ _ _ _ wr.drew
      have HM := Lib.hid (HM.out.drewN 1)
      have yc : wr.drew.cell? ⟨w.heap.size + 1, j, none⟩ = some (.int .u32 (x : Nat)) := xc
      have yf : wr.drew.frozen? ⟨w.heap.size + 1, j, none⟩ = false := xf
      change Hid (Dup w wr.drew (gw s i)) at HM
      clear xc xf v0
      generalize wr.drew = w2 at HM yc yf ⊢
      go_wp2_with (fail)
      rw [show (x : Int) * 256 + (y : Int) = ((x * 256 + y : Nat) : Int) by omega]
      exact ⟨⟨i + 1, HI.out, by go_num, (HM.out.set j (x * 256 + y)).congr HN.out⟩, Lw.meas 32 i HI.out⟩
    · have il : ((i : Int) < 32) = False := eq_false (by omega)
      obtain rfl : i = 32 := by have := hi.out; omega
      rw [show ((32 : Nat) : Int) = 32 from rfl]
      clear hlt il hi
      have HN := Lib.hid HM.out.1.heap
      have HO := Lib.hid HM.out.2.1.heap
      go_upto_region 8 with (fail)
      generalize hA : nmA (gw s 32) = A at HN
      apply wp_region_lit
      refine wpList_load_row rfl 38 _ rfl (w.heap.size + 1) (by kernel_rfl) 38 A (0, 0) _ HN.out Try.underlying38 rfl (by rw [← hA]; kernel_rfl) ?_
      refine wpList_store_row rfl 38 _ _ rfl w.heap.size A (by kernel_rfl) (by kernel_rfl) 38 _ HO.out (by rw [← hA]; kernel_rfl) (by rw [← hA, nmA_size, nmA_size]) (by rw [← hA]; exact nmA_one _) ?_
      simp only [Act.put, List.setIfInBounds_toArray, List.set_cons_zero, List.set_cons_succ]
      go_wp2_with (fail)
      refine bodyPost_ret (v := .agg A) ?_ rfl ?_
      · exact results_cell_row (fn := Try.f41) Try.results41 _ _ w.heap.size 38 _ (0, 0) _ rfl (setRow_heap _ _ _ _ _ _ HO.out) Try.underlying38 rfl (by rw [← hA]; kernel_rfl)
      · exact ⟨by rw [hA], below_setRow HM.out.2.2 (Nat.le_refl _) _⟩
end Go.Proofs.Nd
/-
  The document's own answer for layer 9: a number written as a text.
-/
namespace Go.Proofs.Nu
open Go.RowKit
open Go.Proofs.Im (wpList_box_to words_heap words_one run_index_row)
open Go.Proofs.Sha (wordCells wordCells_get wordCells_size rowIs_of wpList_alloc_to wpList_build_to)
open Go.Proofs.Nt
open Go.Proofs.Aes (byt byt_lt get_byt)
theorem tb_word (x i : Nat) (hi : i < 32) : lb x (7 - i / 4) / 2 ^ (24 - 8 * (i % 4)) % 256 = tb x i := by
  unfold lb tb
  have e : (256 : Nat) ^ (31 - i) = 2 ^ (32 * (7 - i / 4)) * 2 ^ (24 - 8 * (i % 4)) := by
    rw [show (256 : Nat) = 2 ^ 8 by rfl, ← Nat.pow_mul, ← Nat.pow_add]; congr 1; omega
  rw [e, ← Nat.div_div_eq_div_mul]
  generalize x / 2 ^ (32 * (7 - i / 4)) = y
  have h4 : i % 4 < 4 := Nat.mod_lt _ (by decide)
  generalize i % 4 = r at h4
  match r, h4 with
  | 0, _ => show y % 4294967296 / 16777216 % 256 = y / 16777216 % 256; omega
  | 1, _ => show y % 4294967296 / 65536 % 256 = y / 65536 % 256; omega
  | 2, _ => show y % 4294967296 / 256 % 256 = y / 256 % 256; omega
  | 3, _ => show y % 4294967296 / 1 % 256 = y / 1 % 256; omega
/-- The bytes written so far. -/
def pb (x i t : Nat) : Nat := if t < i then tb x t else 0
set_option maxHeartbeats 2000000 in
set_option maxRecDepth 20000 in
theorem put_any (x : Nat) (w : World) : Calls Try.prog 24 #[nmV x] w fun e w' => e = .returned (.string (t32 x)) ∧ Below w.heap.size w w' := by
  obtain ⟨M, hM, hMc, hmk0⟩ := Lw.zeros 32 (by decide)
  have hmk : ∀ W : World, (Instr.makeSlice 32 (.int .i64 32) (.int .i64 32)).run Try.prog W = .ok (.slice (some ⟨W.heap.size, 0, none⟩) 32 32) (W.alloc (.cells M 5)) := hmk0
  have HMz := Lib.hid hM
  have HMc := Lib.hid hMc
  clear hmk0 hM hMc
  go_enter Try.func24, Try.ntmps24
  go_upto_region 0 with (fail)
  apply wp_region_lit
  refine wpList_box_to rfl 50 _ rfl (nmA (lb x)) (by kernel_rfl) w.heap.size rfl ?_
  have HX := Lib.hid (RN.new w (lb x))
  have HB : Hid (Below w.heap.size w (w.alloc (.cells (nmA (lb x)) 50))) := (Below.refl _ _).alloc (Nat.le_refl _) _
  have hsz : (w.alloc (.cells (nmA (lb x)) 50)).heap.size = w.heap.size + 1 := by simp
  generalize w.alloc (.cells (nmA (lb x)) 50) = w1 at HX HB hsz ⊢
  generalize nmV x = Av
  go_upto_region 2 with (fail)
  have HR : Hid (Lw.RowB (w1.alloc (.cells M 5)) w1.heap.size 32 (fun _ => 0)) := Lw.rowB_new w1 M 32 HMz.out HMc.out
  have HX := Lib.hid (show RN (w1.alloc (.cells M 5)) w.heap.size (lb x) from World.rowIs.alloc HX.out _)
  have HB : Hid (Below w.heap.size w (w1.alloc (.cells M 5))) := HB.out.alloc HB.out.size _
  rw [hsz] at HR
  clear hmk hsz HMz HMc
  generalize w1.alloc (.cells M 5) = w2 at HR HX HB ⊢
  go_wp2_with (fail)
  go_loopw [4] (fun v wx => ∃ i : Nat, Hid (i ≤ 32) ∧ v = .int .i64 i ∧ Hid (Lw.RowB wx (w.heap.size + 1) 32 (pb x i)) ∧ Hid (RN wx w.heap.size (lb x)) ∧ Hid (Below w.heap.size w wx)) (fun v _ => 32 - (intOf v).toNat)
  case atStart => exact ⟨0, Nat.zero_le _, rfl, HR.out.congr fun t _ => by unfold pb; rw [if_neg (by omega)], HX, HB⟩
  case round =>
    clear HR HX HB
    obtain ⟨i, hi, rfl, HR, HX, HB⟩ := hrel
    by_cases hlt : i < 32
    · have il : ((i : Int) < 32) = True := eq_true (by omega)
      have il' : (i : Int) < 32 := by omega
      have HI := Lib.hid hlt
      obtain ⟨j, hj⟩ : ∃ j, 7 - i / 4 = j := ⟨_, rfl⟩
      have hj8 : j < 8 := by omega
      obtain ⟨q, hq⟩ : ∃ q, i / 4 = q := ⟨_, rfl⟩
      obtain ⟨r, hr⟩ : ∃ r, i % 4 = r := ⟨_, rfl⟩
      have t1 : IntKind.i64.wrap ((i : Int) / 4) = (q : Int) := by rw [IntWalk.i64_in _ (by omega)]; omega
      have t2 : IntKind.i64.wrap (7 - (q : Int)) = (j : Int) := by rw [IntWalk.i64_in _ (by omega)]; omega
      have jb : (j : Int) < 8 := by omega
      have xc := HX.out.at_ j (lb x j) hj8 rfl
      have yc := World.rowIs.cell HR.out (i := i) hlt
      have yf := World.rowIs.frozen HR.out i
      have l1 := lb_lt x j
      have HT : Hid (lb x j / 2 ^ (24 - 8 * r) % 256 = tb x i) := by rw [← hj, ← hr]; exact tb_word x i hlt
      generalize lb x j = L at xc l1 HT
      clear hlt hj hj8
      have e1 : bits .and .u32 ((L : Int) / 2 ^ (24 - 8 * r)) 255 % 256 = ((tb x i : Nat) : Int) := by
        have e0 : (L : Int) / 2 ^ (24 - 8 * r) = ((L / 2 ^ (24 - 8 * r) : Nat) : Int) := by rw [Int.natCast_ediv, Int.natCast_pow]; rfl
        have h0 : L / 2 ^ (24 - 8 * r) < 4294967296 := Nat.lt_of_le_of_lt (Nat.div_le_self _ _) l1
        have h1 := u32_and_nat (L / 2 ^ (24 - 8 * r)) 255 h0 (by decide)
        rw [show 255 = 2 ^ 8 - 1 from rfl, Nat.and_two_pow_sub_one_eq_mod] at h1
        rw [e0, show bits .and .u32 ((L / 2 ^ (24 - 8 * r) : Nat) : Int) 255 = ((L / 2 ^ (24 - 8 * r) % 2 ^ 8 : Nat) : Int) from h1]
        have := HT.out
        rw [show (2 : Nat) ^ 8 = 256 from rfl, this]
        have := tb_lt x i
        omega
      go_wp2_with (fail)
      refine ⟨⟨i + 1, HI.out, by go_num, (HR.out.set i (tb x i)).congr fun t ht => ?_, HX.out.other (by simp) _, HB.out.setCell (by simp) _⟩, Lw.meas 32 i HI.out⟩
      unfold pb
      by_cases h : t = i
      · rw [if_pos h, if_pos (by omega), h]
      · rw [if_neg h]
        by_cases h2 : t < i
        · rw [if_pos h2, if_pos (by omega)]
        · rw [if_neg h2, if_neg (by omega)]
    · have il : ((i : Int) < 32) = False := eq_false (by omega)
      obtain rfl : i = 32 := by have := hi.out; omega
      rw [show ((32 : Nat) : Int) = 32 from rfl]
      clear hlt il hi
      have hct := (HR.out.congr (Y := tb x) fun t ht => if_pos ht).text 0 32 32 (by decide)
      go_wp2_with (fail)
      go_ret
      exact ⟨rfl, HB.out⟩
end Go.Proofs.Nu
