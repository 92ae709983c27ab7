/-
  The developers' numbers: a number written as a text.
-/
import Derived.Test.YtpniinolkflfjaaJoan
import Derived.Deep.AppendLies
namespace Go.Proofs.Nd
open Go.RowKit
open Go.Proofs.Im (wpList_box_to words_heap words_one run_index_row)
open Go.Proofs.Sha (wordCells wordCells_get wordCells_size rowIs_of wpList_alloc_to wpList_build_to)
open Go.Proofs.Nt
open Go.Proofs.Nu (nmL nmA nmV lt8 nmA_get nmA_congr nmA_one nmA_size results_row_slot B8 b8 nv8 nmA_lb nv_lt8 tb_word)
open Go.Proofs.Aes (byt byt_lt get_byt)
/-- A text's first n bytes as cells. -/
def txL (x n : Nat) : List Value := (List.range n).map fun t => .int .u8 (tb x t : Nat)
theorem txL_get (x n i : Nat) (h : i < n) : (txL x n)[i]? = some (.int .u8 (tb x i : Nat)) := by unfold txL; simp [List.getElem?_range h]
theorem txL_next (x n : Nat) : txL x (4 * n) ++ [.int .u8 (tb x (4 * n) : Nat), .int .u8 (tb x (4 * n + 1) : Nat), .int .u8 (tb x (4 * n + 2) : Nat), .int .u8 (tb x (4 * n + 3) : Nat)] = txL x (4 * (n + 1)) := by
  unfold txL
  rw [show 4 * (n + 1) = 4 * n + 1 + 1 + 1 + 1 by omega, List.range_succ, List.range_succ, List.range_succ, List.range_succ]
  simp
theorem four_new (w : World) (a b c d : Value) (t : TypeId) : ∀ j u, [a, b, c, d][j]? = some u → (w.alloc (.cells #[a, b, c, d] t)).cell? ((⟨w.heap.size, 0, none⟩ : Addr).add j) = some u := by
  intro j u h
  have hadd : (⟨w.heap.size, 0, none⟩ : Addr).add j = ⟨w.heap.size, j, none⟩ := by unfold Addr.add; split <;> simp_all
  rw [hadd, cell_of_row _ w.heap.size j #[a, b, c, d] t (0, 0) (heap_alloc_last _ _)]
  simpa using h
theorem byte_at (L x i k : Nat) (hL : lb x (7 - i) = L) (hi : i < 8) (hk : k < 4) : L / 2 ^ (24 - 8 * k) % 256 = tb x (4 * i + k) := by
  have h := tb_word x (4 * i + k) (by omega)
  rw [show (4 * i + k) / 4 = i by omega, show (4 * i + k) % 4 = k by omega, hL] at h
  exact h
set_option maxHeartbeats 2000000 in
set_option maxRecDepth 20000 in
theorem text_any (x : Nat) (w : World) : Calls Try.prog 18 #[nmV x] w fun e w' => e = .returned (.string (t32 x)) ∧ Below w.heap.size w w' := by
  obtain ⟨i0, hi0, hz0, hz1, hz2⟩ := info_parts (P := Try.prog) (e := 5) (z := .int .u8 0) (size := 1) (bytes := 1) (by kernel_rfl)
  have HJ0 := Lib.hid hi0
  have HJ1 := Lib.hid hz0
  have HJ2 := Lib.hid hz1
  have HJ3 := Lib.hid hz2
  obtain ⟨M, hM, hmk⟩ : ∃ M : Array Value, M.size = 32 ∧ ∀ W : World, (Instr.makeSlice 32 (.int .i64 0) (.int .i64 32)).run Try.prog W = .ok (.slice (some ⟨W.heap.size, 0, none⟩) 0 32) (W.alloc (.cells M 5)) := by
    refine ⟨madeCells (Value.int .u8 0).cells (32 * i0.size), by rw [size_madeCells, hz1], fun W => ?_⟩
    exact run_make (P := Try.prog) W 32 5 i0 (.int .u8 0) Try.underlying32 hi0 hz0 .i64 .i64 0 32 (by omega) (by omega) (by rw [hz2]; decide) (by decide)
  have HMz := Lib.hid hM
  clear hi0 hz0 hz1 hz2 hM
  go_enter Try.func18, Try.ntmps18
  go_upto_region 0 with (fail)
  apply wp_region_lit
  refine wpList_box_to rfl 38 _ rfl (nmA (lb x)) (by kernel_rfl) w.heap.size rfl ?_
  refine Lw.wpList_val rfl (.string ⟨#[]⟩) (w.alloc (.cells (nmA (lb x)) 38)) (by go_simp) ?_
  simp only [Act.put, List.setIfInBounds_toArray, List.set_cons_zero, List.set_cons_succ]
  have HX := Lib.hid (RP.new w (lb x))
  have HB : Hid (Below w.heap.size w (w.alloc (.cells (nmA (lb x)) 38))) := (Below.refl _ _).alloc (Nat.le_refl _) _
  have hsz : w.heap.size + 1 ≤ (w.alloc (.cells (nmA (lb x)) 38)).heap.size := by simp
  generalize w.alloc (.cells (nmA (lb x)) 38) = w1 at HX HB hsz ⊢
  generalize nmV x = Av
  go_upto_region 2 with (fail)
  have HO : Hid ((w1.alloc (.cells M 5)).ownsRow (w.heap.size + 1) 5 1 (.slice (some ⟨w1.heap.size, 0, none⟩) 0 32) 0 []) := World.ownsRow_made w1 M 32 hsz (by decide) HMz.out
  have HX := Lib.hid (show RP (w1.alloc (.cells M 5)) w.heap.size (lb x) from World.rowIs.alloc HX.out _)
  have HB : Hid (Below w.heap.size w (w1.alloc (.cells M 5))) := HB.out.alloc HB.out.size _
  have HS : Hid (w.heap.size + 1 ≤ (w1.alloc (.cells M 5)).heap.size) := by show _ ≤ _; simp; omega
  clear hmk hsz HMz
  generalize w1.heap.size = g0 at HO ⊢
  generalize w1.alloc (.cells M 5) = w2 at HO HX HB HS ⊢
  go_wp2_with (fail)
  go_loopw [3, 7] (fun b v wx => ∃ (i g c : Nat), Hid (i ≤ 8) ∧ v = .int .i64 i ∧ b = .slice (some ⟨g, 0, none⟩) (4 * i : Nat) c ∧ Hid (wx.ownsRow (w.heap.size + 1) 5 1 (.slice (some ⟨g, 0, none⟩) (4 * i) c) (4 * i) (txL x (4 * i))) ∧ Hid (RP wx w.heap.size (lb x)) ∧ Hid (Below w.heap.size w wx) ∧ Hid (w.heap.size + 1 ≤ wx.heap.size)) (fun _ v _ => 8 - (intOf v).toNat)
  case atStart => exact ⟨0, g0, 32, Nat.zero_le _, rfl, rfl, HO, HX, HB, HS⟩
  case round =>
    clear HO HX HB HS
    obtain ⟨i, g, c, hi, rfl, rfl, HO, HX, HB, HS⟩ := hrel
    by_cases hlt : i < 8
    · have il : ((i : Int) < 8) = True := eq_true (by omega)
      have il' : (i : Int) < 8 := by omega
      have HI := Lib.hid hlt
      obtain ⟨j, hj⟩ : ∃ j, 7 - i = j := ⟨_, rfl⟩
      have hj8 : j < 8 := by omega
      have t2 : IntKind.i64.wrap (7 - (i : Int)) = (j : Int) := by rw [IntWalk.i64_in _ (by omega)]; omega
      have jb : (j : Int) < 8 := by omega
      have xc := HX.out.at_ j (lb x j) hj8 rfl
      have l1 := lb_lt x j
      have q0 := byte_at (lb x j) x i 0 (by rw [hj]) hlt (by decide)
      have q1 := byte_at (lb x j) x i 1 (by rw [hj]) hlt (by decide)
      have q2 := byte_at (lb x j) x i 2 (by rw [hj]) hlt (by decide)
      have q3 := byte_at (lb x j) x i 3 (by rw [hj]) hlt (by decide)
      rw [show (2 : Nat) ^ (24 - 8 * 0) = 16777216 by decide] at q0
      rw [show (2 : Nat) ^ (24 - 8 * 1) = 65536 by decide] at q1
      rw [show (2 : Nat) ^ (24 - 8 * 2) = 256 by decide] at q2
      rw [show (2 : Nat) ^ (24 - 8 * 3) = 1 by decide, Nat.div_one] at q3
      generalize lb x j = L at xc l1 q0 q1 q2 q3
      have HQ0 := Lib.hid q0
      have HQ1 := Lib.hid q1
      have HQ2 := Lib.hid q2
      have HQ3 := Lib.hid q3
      clear hlt hj hj8 q0 q1 q2 q3
      go_wp2_with (at_builtin; refine wpList_append_lies _ rfl _ _ 32 rfl (w.heap.size + 1) 5 i0 _ 1 1 Try.underlying32 HJ0.out HJ1.out HJ2.out HJ3.out rfl (by decide) (.slice (some ⟨g, 0, none⟩) (4 * i) c) (4 * i) (txL x (4 * i)) rfl (World.ownsRow.alloc HO.out _) ⟨wr.heap.size, 0, none⟩ 4 4 _ rfl rfl (four_new wr _ _ _ _ _) ?c1 (by decide) ?c3 ?c4 ?c5 (wr.heap.size + 1) (by simp) ?_)
      case c1 => intro u hu; simp only [List.mem_cons, List.not_mem_nil, or_false] at hu; rcases hu with rfl | rfl | rfl | rfl <;> rfl
      case c3 => unfold maxLen; omega
      case c4 => omega
      case c5 => have := HS.out; simp; omega
      intro g2 c2 w3 hown hgrow _ _
      rw [show ((L : Int) / 16777216) = ((tb x (4 * i) : Nat) : Int) by have := HQ0.out; rw [Nat.add_zero] at this; omega, show ((L : Int) / 65536 % 256) = ((tb x (4 * i + 1) : Nat) : Int) by have := HQ1.out; omega,
        show ((L : Int) / 256 % 256) = ((tb x (4 * i + 2) : Nat) : Int) by have := HQ2.out; omega, show ((L : Int) % 256) = ((tb x (4 * i + 3) : Nat) : Int) by have := HQ3.out; omega, txL_next] at hown
      have HO1 : Hid (w3.ownsRow (w.heap.size + 1) 5 1 (.slice (some ⟨g2, 0, none⟩) (4 * (i + 1)) c2) (4 * (i + 1)) (txL x (4 * (i + 1)))) := hown
      have hrow : ∀ k, (Value.slice (some ⟨g, 0, none⟩) (4 * i) c).ownBlock = some k → w.heap.size + 1 ≤ k := fun k hk => (World.ownsRow.lt HO.out k hk).1
      have HB1 : Hid (Below w.heap.size w w3) := (HB.out.alloc HB.out.size _).grown hgrow (by have := HB.out.size; simp; omega) fun k hk => by have := hrow k hk; omega
      have HS1 : Hid (w.heap.size + 1 ≤ w3.heap.size) := by show _ ≤ _; have h1 := hgrow.size; have h2 := HS.out; simp at h1; omega
      have HX1 : Hid (RP w3 w.heap.size (lb x)) := World.rowIs.of_block (World.rowIs.alloc HX.out _) (hgrow.block _ (by have := HS.out; simp; omega) fun e => by have := hrow _ e.symm; omega)
      clear hown hgrow hrow HO HX HB HS xc l1 HQ0 HQ1 HQ2 HQ3
      go_wp2_with (fail)
      exact ⟨⟨i + 1, g2, c2, HI.out, by go_num, rfl, HO1, HX1, HB1, HS1⟩, Lw.meas 8 i HI.out⟩
    · have il : ((i : Int) < 8) = False := eq_false (by omega)
      obtain rfl : i = 8 := by have := hi.out; omega
      rw [show ((8 : Nat) : Int) = 8 from rfl]
      clear hlt il hi
      have hct : (Go.convert 32 9 (.slice (some ⟨g, 0, none⟩) 32 c)).run Try.prog wr = .ok (.string (t32 x)) wr := by
        rw [run_convert_bytes_arg (P := Try.prog) wr 32 5 Try.underlying32 Try.underlying5 g 0 32 c ((List.range 32).map fun t => (tb x (0 + t) : Int)) (by simp) (fun i hi => by
          rw [Nat.zero_add, World.ownsRow.cellAt HO.out i (by omega), txL_get x 32 i hi]
          simp [List.getD_eq_getElem?_getD, List.getElem?_range hi]) 9 Try.underlying9]
        rfl
      clear HO HX HS
      go_wp2_with (fail)
      go_ret
      exact ⟨rfl, HB.out⟩
end Go.Proofs.Nd
