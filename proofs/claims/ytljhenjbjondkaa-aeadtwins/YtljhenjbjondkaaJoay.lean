/-
  The developers' aes: the state as a text.
-/
import Derived.Test.YtljhenjbjondkaaJoaw
import Derived.Test.YtljhenjbjondkaaJoak
import Derived.Deep.DeepAppendRoom
namespace Go.Proofs.Ae
open Go.RowKit
open Go.Proofs.Aes
open Go.Proofs.Im (wpList_box_to words_heap words_one run_index_row)
open Go.Proofs.Sha (wordCells wordCells_get wordCells_size rowIs_of wpList_alloc_to)
/-- Sixteen bytes as a text. -/
def outS (y : Nat → Nat) : ByteArray := strOfNums ((List.range 16).map fun i => (y i : Int))
theorem four_new (W : World) (a b c d : Value) : ∀ j u, [a, b, c, d][j]? = some u → (W.alloc (.cells #[a, b, c, d] 5)).cell? ((⟨W.heap.size, 0, none⟩ : Addr).add j) = some u := by
  intro j u hu
  have hadd : (⟨W.heap.size, 0, none⟩ : Addr).add j = ⟨W.heap.size, j, none⟩ := by unfold Addr.add; split <;> simp_all
  rw [hadd, World.cell?_alloc_at _ _ _ _ rfl]
  match j, hu with
  | 0, hu => exact hu
  | 1, hu => exact hu
  | 2, hu => exact hu
  | 3, hu => exact hu
def Z16b : Array Value := wordCells .u8 (List.replicate 16 0)
theorem make16 (W : World) : (Instr.makeSlice 27 (.int .i64 0) (.int .i64 16)).run Try.prog W = .ok (.slice (some ⟨W.heap.size, 0, none⟩) 0 16) (W.alloc (.cells Z16b 5)) := by kernel_rfl
/-- The bytes so far. -/
def Txt (w wx : World) (j : Nat) (y : Nat → Nat) : Prop := wx.ownsRow w.heap.size 5 1 (.slice (some ⟨w.heap.size + 1, 0, none⟩) (4 * j) 16) (4 * j) (cellsF y j)
set_option maxRecDepth 20000 in
set_option maxHeartbeats 2000000 in
theorem text_any (y : Nat → Nat) (w : World) (hy : ∀ t, y t < 256) :
    Calls Try.prog 72 #[.agg (stA (wd y))] w fun e w' => e = .returned (.string (outS y)) ∧ Below w.heap.size w w' := by
  obtain ⟨i0, hi0, hz0, hz1, hz2⟩ := info_parts (P := Try.prog) (e := 5) (z := .int .u8 0) (size := 1) (bytes := 1) (by kernel_rfl)
  have HJ0 := Lib.hid hi0
  have HJ2 := Lib.hid hz1
  clear hi0 hz0 hz1 hz2
  have HY := Lib.hid hy
  clear hy
  go_enter Try.func72, Try.ntmps72
  go_upto_region 0 with (fail)
  apply wp_region_lit
  refine wpList_box_to rfl 103 _ rfl (stA (wd y)) rfl w.heap.size rfl ?_
  have HR : Hid (RS (w.alloc (.cells (stA (wd y)) 103)) w.heap.size (wd y)) := RS.new w _
  have HB : Hid (Below w.heap.size w (w.alloc (.cells (stA (wd y)) 103))) := (Below.refl _ _).alloc (Nat.le_refl _) _
  have HS : Hid ((w.alloc (.cells (stA (wd y)) 103)).heap.size = w.heap.size + 1) := by show (w.alloc _).heap.size = _; simp
  generalize w.alloc (.cells (stA (wd y)) 103) = w1 at HR HB HS ⊢
  have hmk0 := make16
  have HZ : Hid (∀ W : World, (W.alloc (.cells Z16b 5)).ownsRow w.heap.size 5 1 (.slice (some ⟨W.heap.size, 0, none⟩) 0 16) 0 [] ∨ ¬ w.heap.size ≤ W.heap.size) := fun W => by
    by_cases hW : w.heap.size ≤ W.heap.size
    · exact Or.inl (World.ownsRow_made W Z16b 16 hW (by decide) rfl)
    · exact Or.inr hW
  generalize Z16b = M at HZ hmk0
  have hmk : ∀ W : World, (Instr.makeSlice 27 (.int .i64 0) (.int .i64 16)).run Try.prog W = .ok (.slice (some ⟨W.heap.size, 0, none⟩) 0 16) (W.alloc (.cells M 5)) := hmk0
  clear hmk0
  go_upto_region 2 with (fail)
  have HT : Hid (Txt w (w1.alloc (.cells M 5)) 0 y) := by
    have := HZ.out w1
    rw [HS.out] at this
    exact this.resolve_right (by omega)
  have HR1 : Hid (RS (w1.alloc (.cells M 5)) w.heap.size (wd y)) := World.rowIs.alloc HR.out _
  have HB1 : Hid (Below w.heap.size w (w1.alloc (.cells M 5))) := HB.out.alloc HB.out.size _
  rw [HS.out]
  clear hmk HZ HR HB HS
  generalize w1.alloc (.cells M 5) = w2 at HT HR1 HB1 ⊢
  have HN := Lib.hid HR1.out.heap
  apply wp_region_lit
  refine wpList_load_row rfl 103 _ rfl w.heap.size rfl 103 (stA (wd y)) (0, 0) _ HN.out Try.underlying103 rfl (by kernel_rfl) ?_
  clear HN HR1
  go_wp2_with (fail)
  go_loopw [3, 8] (fun v i wx => ∃ j : Nat, Hid (j ≤ 4) ∧ i = .int .i64 j ∧ v = .slice (some ⟨w.heap.size + 1, 0, none⟩) (4 * j) 16 ∧ Hid (Txt w wx j y) ∧ Hid (Below w.heap.size w wx)) (fun _ i _ => 4 - (intOf i).toNat)
  case atStart => exact ⟨0, Nat.zero_le 4, rfl, rfl, HT, HB1⟩
  case round =>
    clear HT HB1
    obtain ⟨j, hj, rfl, rfl, HT, HB⟩ := hrel
    by_cases hlt : j < 4
    · have jl : ((j : Int) < 4) = True := eq_true (by omega)
      have jl' : (j : Int) < 4 := by omega
      have hix := fun W => run_index_row (P := Try.prog) W 103 81 4 (stA (wd y)) .i64 j (.int .u32 (wd y j : Nat)) Try.underlying103 (by kernel_rfl) _ Try.underlying81 rfl hlt (stA_get _ j hlt)
      have HJ := Lib.hid hlt
      have HL := Lib.hid (wd_lt HY.out j)
      have y0 := HY.out (4 * j)
      have y1 := HY.out (4 * j + 1)
      have y2 := HY.out (4 * j + 2)
      have y3 := HY.out (4 * j + 3)
      have e0 : (wd y j : Int) / 16777216 % 256 = (y (4 * j) : Nat) := by unfold wd pk; omega
      have e1 : (wd y j : Int) / 65536 % 256 = (y (4 * j + 1) : Nat) := by unfold wd pk; omega
      have e2 : (wd y j : Int) / 256 % 256 = (y (4 * j + 2) : Nat) := by unfold wd pk; omega
      have e3 : (wd y j : Int) % 256 = (y (4 * j + 3) : Nat) := by unfold wd pk; omega
      clear hlt y0 y1 y2 y3
      generalize wd y j = x at *
      go_wp2_with (at_builtin; refine wpList_append_own_spare _ rfl _ _ 27 rfl w.heap.size 5 i0 1 Try.underlying27 HJ0.out HJ2.out (w.heap.size + 1) (4 * j) 16 (cellsF y j) rfl (World.ownsRow.alloc HT.out _) ⟨wr.heap.size, 0, none⟩ 4 4 _ rfl rfl (four_new wr _ _ _ _) four_one (by have := HJ.out; omega) ?_)
      intro w4 hown hgrow
      rw [cellsF_succ y y j _ _ _ _ (fun _ _ => rfl) rfl rfl rfl rfl] at hown
      have HT4 : Hid (Txt w w4 (j + 1) y) := hown
      have HB4 : Hid (Below w.heap.size w w4) := (HB.out.alloc HB.out.size _).grown hgrow (by have := HB.out.size; simp; omega) (fun k hk => by injection hk with hk; omega)
      clear hown hgrow
      go_wp2_with (fail)
      exact ⟨⟨j + 1, HJ.out, by go_num, rfl, HT4, HB4⟩, meas 4 j HJ.out⟩
    · have jl : ((j : Int) < 4) = False := eq_false (by omega)
      obtain rfl : j = 4 := by have := hj.out; omega
      rw [show ((4 : Nat) : Int) = 4 from rfl, show 4 * 4 = 16 from rfl]
      clear hlt jl hj
      go_wp2_with (fail)
      rw [run_convert_bytes_arg (P := Try.prog) _ 27 5 Try.underlying27 Try.underlying5 (w.heap.size + 1) 0 16 16 ((List.range 16).map fun t => (y t : Int)) (by simp) (fun i hi => by
        rw [Nat.zero_add, World.ownsRow.cellAt HT.out i (by omega), cellsF_get y 4 i (by omega)]
        simp [List.getD_eq_getElem?_getD, List.getElem?_range hi]) 9 Try.underlying9]
      go_wp2_with (fail)
      go_ret
      exact ⟨rfl, HB.out⟩
end Go.Proofs.Ae
