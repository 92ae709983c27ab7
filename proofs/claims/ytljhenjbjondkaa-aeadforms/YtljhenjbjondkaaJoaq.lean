/-
  The developers' gcm: an element as a text.
-/
import Derived.Test.YtljhenjbjondkaaJoap
import Derived.Deep.DeepAppendRoom
namespace Go.Proofs.Gd
open Go.RowKit Go.Proofs.Gcm
open Go.Proofs.Im (wpList_box_to wp_region_quiet_tail)
open Go.Proofs.Sha (rowIs_of wpList_alloc_to wordCells)
def elC (p : Nat × Nat) (i : Nat) : Value := .int .u64 ((if i = 0 then p.1 else p.2 : Nat) : Int)
/-- An element in memory, cell by cell. -/
def ElR (w : World) (g : Nat) (p : Nat × Nat) : Prop := w.rowIs g 46 2 (elC p)
theorem ElR.new (w : World) (p : Nat × Nat) : ElR (w.alloc (.cells (elA p) 46)) w.heap.size p := rowIs_of w (elA p) 46 2 _ rfl fun i hi => by
  match i, hi with
  | 0, _ => rfl
  | 1, _ => rfl
theorem ElR.c0 {w : World} {g : Nat} {p : Nat × Nat} (h : ElR w g p) : w.cell? ⟨g, 0, none⟩ = some (.int .u64 (p.1 : Nat)) := World.rowIs.cell h (i := 0) (by decide)
theorem ElR.c1 {w : World} {g : Nat} {p : Nat × Nat} (h : ElR w g p) : w.cell? ⟨g, 1, none⟩ = some (.int .u64 (p.2 : Nat)) := World.rowIs.cell h (i := 1) (by decide)
theorem ElR.block {w u : World} {g : Nat} {p : Nat × Nat} (h : ElR w g p) (hb : u.heap[g]? = w.heap[g]?) : ElR u g p := World.rowIs.of_block h hb
def cl (y : Nat → Nat) (j : Nat) : List Value := (List.range j).map fun t => .int .u8 ((y t : Nat) : Int)
theorem cl_succ (y : Nat → Nat) (j : Nat) : cl y j ++ [.int .u8 ((y j : Nat) : Int)] = cl y (j + 1) := by unfold cl; rw [List.range_succ, List.map_append]; rfl
theorem cl_get (y : Nat → Nat) (j i : Nat) (h : i < j) : (cl y j)[i]? = some (.int .u8 ((y i : Nat) : Int)) := by
  unfold cl; rw [List.getElem?_map, List.getElem?_range h]; rfl
theorem one_new (W : World) (a : Value) : ∀ j u, [a][j]? = some u → (W.alloc (.cells #[a] 5)).cell? ((⟨W.heap.size, 0, none⟩ : Addr).add j) = some u := by
  intro j u hu
  have hadd : (⟨W.heap.size, 0, none⟩ : Addr).add j = ⟨W.heap.size, j, none⟩ := by unfold Addr.add; split <;> simp_all
  rw [hadd, World.cell?_alloc_at _ _ _ _ rfl]
  match j, hu with
  | 0, hu => exact hu
theorem one_one {x : Int} : ∀ u ∈ [Value.int .u8 x], u.oneCell' = true := by
  intro u hu
  rw [List.mem_singleton] at hu
  subst hu
  rfl
def Z16b : Array Value := wordCells .u8 (List.replicate 16 0)
theorem make16 (W : World) : (Instr.makeSlice 27 (.int .i64 0) (.int .i64 16)).run Try.prog W = .ok (.slice (some ⟨W.heap.size, 0, none⟩) 0 16) (W.alloc (.cells Z16b 5)) := by kernel_rfl
/-- The bytes so far. -/
def Txt (w wx : World) (j : Nat) (y : Nat → Nat) : Prop := wx.ownsRow w.heap.size 5 1 (.slice (some ⟨w.heap.size + 1, 0, none⟩) j 16) j (cl y j)
set_option maxHeartbeats 2000000 in
theorem text_any (a b : Nat) (w : World) :
    Calls Try.prog 38 #[.agg (elA (a, b))] w fun e w' => e = .returned (.string (wholeS a b)) ∧ Below w.heap.size w w' := by
  obtain ⟨i0, hi0, hz0, hz1, hz2⟩ := info_parts (P := Try.prog) (e := 5) (z := .int .u8 0) (size := 1) (bytes := 1) (by kernel_rfl)
  have HJ0 := Lib.hid hi0
  have HJ2 := Lib.hid hz1
  clear hi0 hz0 hz1 hz2
  go_enter Try.func38, Try.ntmps38
  go_upto_region 0 with (fail)
  apply wp_region_lit
  refine wpList_box_to rfl 46 _ rfl (elA (a, b)) rfl w.heap.size rfl ?_
  have HR : Hid (ElR (w.alloc (.cells (elA (a, b)) 46)) w.heap.size (a, b)) := ElR.new w _
  have HB : Hid (Below w.heap.size w (w.alloc (.cells (elA (a, b)) 46))) := (Below.refl _ _).alloc (Nat.le_refl _) _
  have HS : Hid ((w.alloc (.cells (elA (a, b)) 46)).heap.size = w.heap.size + 1) := by show (w.alloc _).heap.size = _; simp
  generalize w.alloc (.cells (elA (a, b)) 46) = w1 at HR HB HS ⊢
  have hmk0 := make16
  have HZ : Hid (∀ W : World, (W.alloc (.cells Z16b 5)).ownsRow w.heap.size 5 1 (.slice (some ⟨W.heap.size, 0, none⟩) 0 16) 0 [] ∨ ¬ w.heap.size ≤ W.heap.size) := fun W => by
    by_cases hW : w.heap.size ≤ W.heap.size
    · exact Or.inl (World.ownsRow_made W Z16b 16 hW (by decide) rfl)
    · exact Or.inr hW
  generalize Z16b = M at HZ hmk0
  have hmk : ∀ W : World, (Instr.makeSlice 27 (.int .i64 0) (.int .i64 16)).run Try.prog W = .ok (.slice (some ⟨W.heap.size, 0, none⟩) 0 16) (W.alloc (.cells M 5)) := hmk0
  clear hmk0
  go_upto_region 2 with (fail)
  have HT : Hid (Txt w (w1.alloc (.cells M 5)) 0 (wB a b)) := by
    have := HZ.out w1
    rw [HS.out] at this
    exact this.resolve_right (by omega)
  have HR1 : Hid (ElR (w1.alloc (.cells M 5)) w.heap.size (a, b)) := World.rowIs.alloc HR.out _
  have HB1 : Hid (Below w.heap.size w (w1.alloc (.cells M 5))) := HB.out.alloc HB.out.size _
  rw [HS.out]
  clear hmk HZ HR HB HS
  generalize w1.alloc (.cells M 5) = w2 at HT HR1 HB1 ⊢
  go_wp2_with (fail)
  go_loopw [3, 4] (fun v i wx => ∃ j : Nat, Hid (j ≤ 8) ∧ i = .int .i64 (56 - 8 * (j : Int)) ∧ v = .slice (some ⟨w.heap.size + 1, 0, none⟩) (0 + j) 16 ∧ Hid (Txt w wx (0 + j) (wB a b)) ∧ Hid (ElR wx w.heap.size (a, b)) ∧ Hid (Below w.heap.size w wx)) (fun _ i _ => (intOf i + 8).toNat)
  case atStart => exact ⟨0, Nat.zero_le 8, rfl, rfl, HT, HR1, HB1⟩
  case round =>
    clear HT HR1 HB1
    obtain ⟨j, hj, rfl, rfl, HT, HR, HB⟩ := hrel
    have xc := HR.out.c0
    have hj := hj.out
    by_cases hlt : j < 8
    · have hk : j = 0 ∨ j = 1 ∨ j = 2 ∨ j = 3 ∨ j = 4 ∨ j = 5 ∨ j = 6 ∨ j = 7 := by omega
      clear hlt hj
      rcases hk with rfl | rfl | rfl | rfl | rfl | rfl | rfl | rfl
      · rw [show (56 : Int) - 8 * ((0 : Nat) : Int) = 56 from rfl]
        have e0 : (a : Int) / 72057594037927936 % 256 = ((wB a b 0 : Nat) : Int) := by unfold wB; simp
        generalize hy : wB a b = y at e0 HT ⊢
        go_wp2_with (at_builtin; refine wpList_append_own_spare _ rfl _ _ 27 rfl w.heap.size 5 i0 1 Try.underlying27 HJ0.out HJ2.out (w.heap.size + 1) 0 16 (cl y 0) rfl (World.ownsRow.alloc HT.out _) ⟨wr.heap.size, 0, none⟩ 1 1 _ rfl rfl (one_new wr _) one_one (by decide) ?_)
        intro w4 hown hgrow
        rw [cl_succ y 0] at hown
        have HT4 : Hid (Txt w w4 1 y) := hown
        have HB4 : Hid (Below w.heap.size w w4) := (HB.out.alloc HB.out.size _).grown hgrow (by have := HB.out.size; simp; omega) (fun k hk => by injection hk with hk; omega)
        have HR4 : Hid (ElR w4 w.heap.size (a, b)) := World.rowIs.of_block (World.rowIs.alloc HR.out _) (hgrow.block w.heap.size (World.rowIs.lt (World.rowIs.alloc HR.out _)) (fun e => by injection e with e; omega))
        clear hown hgrow
        go_wp2_with (fail)
        exact ⟨⟨1, (by decide : 1 ≤ 8), rfl, rfl, hy ▸ HT4, HR4, HB4⟩, by decide⟩
      · rw [show (56 : Int) - 8 * ((1 : Nat) : Int) = 48 from rfl]
        have e0 : (a : Int) / 281474976710656 % 256 = ((wB a b 1 : Nat) : Int) := by unfold wB; simp
        generalize hy : wB a b = y at e0 HT ⊢
        go_wp2_with (at_builtin; refine wpList_append_own_spare _ rfl _ _ 27 rfl w.heap.size 5 i0 1 Try.underlying27 HJ0.out HJ2.out (w.heap.size + 1) 1 16 (cl y 1) rfl (World.ownsRow.alloc HT.out _) ⟨wr.heap.size, 0, none⟩ 1 1 _ rfl rfl (one_new wr _) one_one (by decide) ?_)
        intro w4 hown hgrow
        rw [cl_succ y 1] at hown
        have HT4 : Hid (Txt w w4 2 y) := hown
        have HB4 : Hid (Below w.heap.size w w4) := (HB.out.alloc HB.out.size _).grown hgrow (by have := HB.out.size; simp; omega) (fun k hk => by injection hk with hk; omega)
        have HR4 : Hid (ElR w4 w.heap.size (a, b)) := World.rowIs.of_block (World.rowIs.alloc HR.out _) (hgrow.block w.heap.size (World.rowIs.lt (World.rowIs.alloc HR.out _)) (fun e => by injection e with e; omega))
        clear hown hgrow
        go_wp2_with (fail)
        exact ⟨⟨2, (by decide : 2 ≤ 8), rfl, rfl, hy ▸ HT4, HR4, HB4⟩, by decide⟩
      · rw [show (56 : Int) - 8 * ((2 : Nat) : Int) = 40 from rfl]
        have e0 : (a : Int) / 1099511627776 % 256 = ((wB a b 2 : Nat) : Int) := by unfold wB; simp
        generalize hy : wB a b = y at e0 HT ⊢
        go_wp2_with (at_builtin; refine wpList_append_own_spare _ rfl _ _ 27 rfl w.heap.size 5 i0 1 Try.underlying27 HJ0.out HJ2.out (w.heap.size + 1) 2 16 (cl y 2) rfl (World.ownsRow.alloc HT.out _) ⟨wr.heap.size, 0, none⟩ 1 1 _ rfl rfl (one_new wr _) one_one (by decide) ?_)
        intro w4 hown hgrow
        rw [cl_succ y 2] at hown
        have HT4 : Hid (Txt w w4 3 y) := hown
        have HB4 : Hid (Below w.heap.size w w4) := (HB.out.alloc HB.out.size _).grown hgrow (by have := HB.out.size; simp; omega) (fun k hk => by injection hk with hk; omega)
        have HR4 : Hid (ElR w4 w.heap.size (a, b)) := World.rowIs.of_block (World.rowIs.alloc HR.out _) (hgrow.block w.heap.size (World.rowIs.lt (World.rowIs.alloc HR.out _)) (fun e => by injection e with e; omega))
        clear hown hgrow
        go_wp2_with (fail)
        exact ⟨⟨3, (by decide : 3 ≤ 8), rfl, rfl, hy ▸ HT4, HR4, HB4⟩, by decide⟩
      · rw [show (56 : Int) - 8 * ((3 : Nat) : Int) = 32 from rfl]
        have e0 : (a : Int) / 4294967296 % 256 = ((wB a b 3 : Nat) : Int) := by unfold wB; simp
        generalize hy : wB a b = y at e0 HT ⊢
        go_wp2_with (at_builtin; refine wpList_append_own_spare _ rfl _ _ 27 rfl w.heap.size 5 i0 1 Try.underlying27 HJ0.out HJ2.out (w.heap.size + 1) 3 16 (cl y 3) rfl (World.ownsRow.alloc HT.out _) ⟨wr.heap.size, 0, none⟩ 1 1 _ rfl rfl (one_new wr _) one_one (by decide) ?_)
        intro w4 hown hgrow
        rw [cl_succ y 3] at hown
        have HT4 : Hid (Txt w w4 4 y) := hown
        have HB4 : Hid (Below w.heap.size w w4) := (HB.out.alloc HB.out.size _).grown hgrow (by have := HB.out.size; simp; omega) (fun k hk => by injection hk with hk; omega)
        have HR4 : Hid (ElR w4 w.heap.size (a, b)) := World.rowIs.of_block (World.rowIs.alloc HR.out _) (hgrow.block w.heap.size (World.rowIs.lt (World.rowIs.alloc HR.out _)) (fun e => by injection e with e; omega))
        clear hown hgrow
        go_wp2_with (fail)
        exact ⟨⟨4, (by decide : 4 ≤ 8), rfl, rfl, hy ▸ HT4, HR4, HB4⟩, by decide⟩
      · rw [show (56 : Int) - 8 * ((4 : Nat) : Int) = 24 from rfl]
        have e0 : (a : Int) / 16777216 % 256 = ((wB a b 4 : Nat) : Int) := by unfold wB; simp
        generalize hy : wB a b = y at e0 HT ⊢
        go_wp2_with (at_builtin; refine wpList_append_own_spare _ rfl _ _ 27 rfl w.heap.size 5 i0 1 Try.underlying27 HJ0.out HJ2.out (w.heap.size + 1) 4 16 (cl y 4) rfl (World.ownsRow.alloc HT.out _) ⟨wr.heap.size, 0, none⟩ 1 1 _ rfl rfl (one_new wr _) one_one (by decide) ?_)
        intro w4 hown hgrow
        rw [cl_succ y 4] at hown
        have HT4 : Hid (Txt w w4 5 y) := hown
        have HB4 : Hid (Below w.heap.size w w4) := (HB.out.alloc HB.out.size _).grown hgrow (by have := HB.out.size; simp; omega) (fun k hk => by injection hk with hk; omega)
        have HR4 : Hid (ElR w4 w.heap.size (a, b)) := World.rowIs.of_block (World.rowIs.alloc HR.out _) (hgrow.block w.heap.size (World.rowIs.lt (World.rowIs.alloc HR.out _)) (fun e => by injection e with e; omega))
        clear hown hgrow
        go_wp2_with (fail)
        exact ⟨⟨5, (by decide : 5 ≤ 8), rfl, rfl, hy ▸ HT4, HR4, HB4⟩, by decide⟩
      · rw [show (56 : Int) - 8 * ((5 : Nat) : Int) = 16 from rfl]
        have e0 : (a : Int) / 65536 % 256 = ((wB a b 5 : Nat) : Int) := by unfold wB; simp
        generalize hy : wB a b = y at e0 HT ⊢
        go_wp2_with (at_builtin; refine wpList_append_own_spare _ rfl _ _ 27 rfl w.heap.size 5 i0 1 Try.underlying27 HJ0.out HJ2.out (w.heap.size + 1) 5 16 (cl y 5) rfl (World.ownsRow.alloc HT.out _) ⟨wr.heap.size, 0, none⟩ 1 1 _ rfl rfl (one_new wr _) one_one (by decide) ?_)
        intro w4 hown hgrow
        rw [cl_succ y 5] at hown
        have HT4 : Hid (Txt w w4 6 y) := hown
        have HB4 : Hid (Below w.heap.size w w4) := (HB.out.alloc HB.out.size _).grown hgrow (by have := HB.out.size; simp; omega) (fun k hk => by injection hk with hk; omega)
        have HR4 : Hid (ElR w4 w.heap.size (a, b)) := World.rowIs.of_block (World.rowIs.alloc HR.out _) (hgrow.block w.heap.size (World.rowIs.lt (World.rowIs.alloc HR.out _)) (fun e => by injection e with e; omega))
        clear hown hgrow
        go_wp2_with (fail)
        exact ⟨⟨6, (by decide : 6 ≤ 8), rfl, rfl, hy ▸ HT4, HR4, HB4⟩, by decide⟩
      · rw [show (56 : Int) - 8 * ((6 : Nat) : Int) = 8 from rfl]
        have e0 : (a : Int) / 256 % 256 = ((wB a b 6 : Nat) : Int) := by unfold wB; simp
        generalize hy : wB a b = y at e0 HT ⊢
        go_wp2_with (at_builtin; refine wpList_append_own_spare _ rfl _ _ 27 rfl w.heap.size 5 i0 1 Try.underlying27 HJ0.out HJ2.out (w.heap.size + 1) 6 16 (cl y 6) rfl (World.ownsRow.alloc HT.out _) ⟨wr.heap.size, 0, none⟩ 1 1 _ rfl rfl (one_new wr _) one_one (by decide) ?_)
        intro w4 hown hgrow
        rw [cl_succ y 6] at hown
        have HT4 : Hid (Txt w w4 7 y) := hown
        have HB4 : Hid (Below w.heap.size w w4) := (HB.out.alloc HB.out.size _).grown hgrow (by have := HB.out.size; simp; omega) (fun k hk => by injection hk with hk; omega)
        have HR4 : Hid (ElR w4 w.heap.size (a, b)) := World.rowIs.of_block (World.rowIs.alloc HR.out _) (hgrow.block w.heap.size (World.rowIs.lt (World.rowIs.alloc HR.out _)) (fun e => by injection e with e; omega))
        clear hown hgrow
        go_wp2_with (fail)
        exact ⟨⟨7, (by decide : 7 ≤ 8), rfl, rfl, hy ▸ HT4, HR4, HB4⟩, by decide⟩
      · rw [show (56 : Int) - 8 * ((7 : Nat) : Int) = 0 from rfl]
        have e0 : (a : Int) % 256 = ((wB a b 7 : Nat) : Int) := by unfold wB; simp
        generalize hy : wB a b = y at e0 HT ⊢
        go_wp2_with (at_builtin; refine wpList_append_own_spare _ rfl _ _ 27 rfl w.heap.size 5 i0 1 Try.underlying27 HJ0.out HJ2.out (w.heap.size + 1) 7 16 (cl y 7) rfl (World.ownsRow.alloc HT.out _) ⟨wr.heap.size, 0, none⟩ 1 1 _ rfl rfl (one_new wr _) one_one (by decide) ?_)
        intro w4 hown hgrow
        rw [cl_succ y 7] at hown
        have HT4 : Hid (Txt w w4 8 y) := hown
        have HB4 : Hid (Below w.heap.size w w4) := (HB.out.alloc HB.out.size _).grown hgrow (by have := HB.out.size; simp; omega) (fun k hk => by injection hk with hk; omega)
        have HR4 : Hid (ElR w4 w.heap.size (a, b)) := World.rowIs.of_block (World.rowIs.alloc HR.out _) (hgrow.block w.heap.size (World.rowIs.lt (World.rowIs.alloc HR.out _)) (fun e => by injection e with e; omega))
        clear hown hgrow
        go_wp2_with (fail)
        exact ⟨⟨8, (by decide : 8 ≤ 8), rfl, rfl, hy ▸ HT4, HR4, HB4⟩, by decide⟩
    · obtain rfl : j = 8 := by omega
      rw [show (56 : Int) - 8 * ((8 : Nat) : Int) = -8 from rfl]
      clear hlt hj
      go_wp2_with (fail)
      go_loopw [3, 5] (fun v i wx => ∃ j : Nat, Hid (j ≤ 8) ∧ i = .int .i64 (56 - 8 * (j : Int)) ∧ v = .slice (some ⟨w.heap.size + 1, 0, none⟩) (8 + j) 16 ∧ Hid (Txt w wx (8 + j) (wB a b)) ∧ Hid (ElR wx w.heap.size (a, b)) ∧ Hid (Below w.heap.size w wx)) (fun _ i _ => (intOf i + 8).toNat)
      case atStart => exact ⟨0, Nat.zero_le 8, rfl, rfl, HT, HR, HB⟩
      case round =>
        clear HT HR HB
        obtain ⟨j, hj, rfl, rfl, HT, HR, HB⟩ := hrel
        have xc := HR.out.c1
        have hj := hj.out
        by_cases hlt : j < 8
        · have hk : j = 0 ∨ j = 1 ∨ j = 2 ∨ j = 3 ∨ j = 4 ∨ j = 5 ∨ j = 6 ∨ j = 7 := by omega
          clear hlt hj
          rcases hk with rfl | rfl | rfl | rfl | rfl | rfl | rfl | rfl
          · rw [show (56 : Int) - 8 * ((0 : Nat) : Int) = 56 from rfl]
            have e0 : (b : Int) / 72057594037927936 % 256 = ((wB a b 8 : Nat) : Int) := by unfold wB; simp
            generalize hy : wB a b = y at e0 HT ⊢
            go_wp2_with (at_builtin; refine wpList_append_own_spare _ rfl _ _ 27 rfl w.heap.size 5 i0 1 Try.underlying27 HJ0.out HJ2.out (w.heap.size + 1) 8 16 (cl y 8) rfl (World.ownsRow.alloc HT.out _) ⟨wr.heap.size, 0, none⟩ 1 1 _ rfl rfl (one_new wr _) one_one (by decide) ?_)
            intro w4 hown hgrow
            rw [cl_succ y 8] at hown
            have HT4 : Hid (Txt w w4 9 y) := hown
            have HB4 : Hid (Below w.heap.size w w4) := (HB.out.alloc HB.out.size _).grown hgrow (by have := HB.out.size; simp; omega) (fun k hk => by injection hk with hk; omega)
            have HR4 : Hid (ElR w4 w.heap.size (a, b)) := World.rowIs.of_block (World.rowIs.alloc HR.out _) (hgrow.block w.heap.size (World.rowIs.lt (World.rowIs.alloc HR.out _)) (fun e => by injection e with e; omega))
            clear hown hgrow
            go_wp2_with (fail)
            exact ⟨⟨1, (by decide : 1 ≤ 8), rfl, rfl, hy ▸ HT4, HR4, HB4⟩, by decide⟩
          · rw [show (56 : Int) - 8 * ((1 : Nat) : Int) = 48 from rfl]
            have e0 : (b : Int) / 281474976710656 % 256 = ((wB a b 9 : Nat) : Int) := by unfold wB; simp
            generalize hy : wB a b = y at e0 HT ⊢
            go_wp2_with (at_builtin; refine wpList_append_own_spare _ rfl _ _ 27 rfl w.heap.size 5 i0 1 Try.underlying27 HJ0.out HJ2.out (w.heap.size + 1) 9 16 (cl y 9) rfl (World.ownsRow.alloc HT.out _) ⟨wr.heap.size, 0, none⟩ 1 1 _ rfl rfl (one_new wr _) one_one (by decide) ?_)
            intro w4 hown hgrow
            rw [cl_succ y 9] at hown
            have HT4 : Hid (Txt w w4 10 y) := hown
            have HB4 : Hid (Below w.heap.size w w4) := (HB.out.alloc HB.out.size _).grown hgrow (by have := HB.out.size; simp; omega) (fun k hk => by injection hk with hk; omega)
            have HR4 : Hid (ElR w4 w.heap.size (a, b)) := World.rowIs.of_block (World.rowIs.alloc HR.out _) (hgrow.block w.heap.size (World.rowIs.lt (World.rowIs.alloc HR.out _)) (fun e => by injection e with e; omega))
            clear hown hgrow
            go_wp2_with (fail)
            exact ⟨⟨2, (by decide : 2 ≤ 8), rfl, rfl, hy ▸ HT4, HR4, HB4⟩, by decide⟩
          · rw [show (56 : Int) - 8 * ((2 : Nat) : Int) = 40 from rfl]
            have e0 : (b : Int) / 1099511627776 % 256 = ((wB a b 10 : Nat) : Int) := by unfold wB; simp
            generalize hy : wB a b = y at e0 HT ⊢
            go_wp2_with (at_builtin; refine wpList_append_own_spare _ rfl _ _ 27 rfl w.heap.size 5 i0 1 Try.underlying27 HJ0.out HJ2.out (w.heap.size + 1) 10 16 (cl y 10) rfl (World.ownsRow.alloc HT.out _) ⟨wr.heap.size, 0, none⟩ 1 1 _ rfl rfl (one_new wr _) one_one (by decide) ?_)
            intro w4 hown hgrow
            rw [cl_succ y 10] at hown
            have HT4 : Hid (Txt w w4 11 y) := hown
            have HB4 : Hid (Below w.heap.size w w4) := (HB.out.alloc HB.out.size _).grown hgrow (by have := HB.out.size; simp; omega) (fun k hk => by injection hk with hk; omega)
            have HR4 : Hid (ElR w4 w.heap.size (a, b)) := World.rowIs.of_block (World.rowIs.alloc HR.out _) (hgrow.block w.heap.size (World.rowIs.lt (World.rowIs.alloc HR.out _)) (fun e => by injection e with e; omega))
            clear hown hgrow
            go_wp2_with (fail)
            exact ⟨⟨3, (by decide : 3 ≤ 8), rfl, rfl, hy ▸ HT4, HR4, HB4⟩, by decide⟩
          · rw [show (56 : Int) - 8 * ((3 : Nat) : Int) = 32 from rfl]
            have e0 : (b : Int) / 4294967296 % 256 = ((wB a b 11 : Nat) : Int) := by unfold wB; simp
            generalize hy : wB a b = y at e0 HT ⊢
            go_wp2_with (at_builtin; refine wpList_append_own_spare _ rfl _ _ 27 rfl w.heap.size 5 i0 1 Try.underlying27 HJ0.out HJ2.out (w.heap.size + 1) 11 16 (cl y 11) rfl (World.ownsRow.alloc HT.out _) ⟨wr.heap.size, 0, none⟩ 1 1 _ rfl rfl (one_new wr _) one_one (by decide) ?_)
            intro w4 hown hgrow
            rw [cl_succ y 11] at hown
            have HT4 : Hid (Txt w w4 12 y) := hown
            have HB4 : Hid (Below w.heap.size w w4) := (HB.out.alloc HB.out.size _).grown hgrow (by have := HB.out.size; simp; omega) (fun k hk => by injection hk with hk; omega)
            have HR4 : Hid (ElR w4 w.heap.size (a, b)) := World.rowIs.of_block (World.rowIs.alloc HR.out _) (hgrow.block w.heap.size (World.rowIs.lt (World.rowIs.alloc HR.out _)) (fun e => by injection e with e; omega))
            clear hown hgrow
            go_wp2_with (fail)
            exact ⟨⟨4, (by decide : 4 ≤ 8), rfl, rfl, hy ▸ HT4, HR4, HB4⟩, by decide⟩
          · rw [show (56 : Int) - 8 * ((4 : Nat) : Int) = 24 from rfl]
            have e0 : (b : Int) / 16777216 % 256 = ((wB a b 12 : Nat) : Int) := by unfold wB; simp
            generalize hy : wB a b = y at e0 HT ⊢
            go_wp2_with (at_builtin; refine wpList_append_own_spare _ rfl _ _ 27 rfl w.heap.size 5 i0 1 Try.underlying27 HJ0.out HJ2.out (w.heap.size + 1) 12 16 (cl y 12) rfl (World.ownsRow.alloc HT.out _) ⟨wr.heap.size, 0, none⟩ 1 1 _ rfl rfl (one_new wr _) one_one (by decide) ?_)
            intro w4 hown hgrow
            rw [cl_succ y 12] at hown
            have HT4 : Hid (Txt w w4 13 y) := hown
            have HB4 : Hid (Below w.heap.size w w4) := (HB.out.alloc HB.out.size _).grown hgrow (by have := HB.out.size; simp; omega) (fun k hk => by injection hk with hk; omega)
            have HR4 : Hid (ElR w4 w.heap.size (a, b)) := World.rowIs.of_block (World.rowIs.alloc HR.out _) (hgrow.block w.heap.size (World.rowIs.lt (World.rowIs.alloc HR.out _)) (fun e => by injection e with e; omega))
            clear hown hgrow
            go_wp2_with (fail)
            exact ⟨⟨5, (by decide : 5 ≤ 8), rfl, rfl, hy ▸ HT4, HR4, HB4⟩, by decide⟩
          · rw [show (56 : Int) - 8 * ((5 : Nat) : Int) = 16 from rfl]
            have e0 : (b : Int) / 65536 % 256 = ((wB a b 13 : Nat) : Int) := by unfold wB; simp
            generalize hy : wB a b = y at e0 HT ⊢
            go_wp2_with (at_builtin; refine wpList_append_own_spare _ rfl _ _ 27 rfl w.heap.size 5 i0 1 Try.underlying27 HJ0.out HJ2.out (w.heap.size + 1) 13 16 (cl y 13) rfl (World.ownsRow.alloc HT.out _) ⟨wr.heap.size, 0, none⟩ 1 1 _ rfl rfl (one_new wr _) one_one (by decide) ?_)
            intro w4 hown hgrow
            rw [cl_succ y 13] at hown
            have HT4 : Hid (Txt w w4 14 y) := hown
            have HB4 : Hid (Below w.heap.size w w4) := (HB.out.alloc HB.out.size _).grown hgrow (by have := HB.out.size; simp; omega) (fun k hk => by injection hk with hk; omega)
            have HR4 : Hid (ElR w4 w.heap.size (a, b)) := World.rowIs.of_block (World.rowIs.alloc HR.out _) (hgrow.block w.heap.size (World.rowIs.lt (World.rowIs.alloc HR.out _)) (fun e => by injection e with e; omega))
            clear hown hgrow
            go_wp2_with (fail)
            exact ⟨⟨6, (by decide : 6 ≤ 8), rfl, rfl, hy ▸ HT4, HR4, HB4⟩, by decide⟩
          · rw [show (56 : Int) - 8 * ((6 : Nat) : Int) = 8 from rfl]
            have e0 : (b : Int) / 256 % 256 = ((wB a b 14 : Nat) : Int) := by unfold wB; simp
            generalize hy : wB a b = y at e0 HT ⊢
            go_wp2_with (at_builtin; refine wpList_append_own_spare _ rfl _ _ 27 rfl w.heap.size 5 i0 1 Try.underlying27 HJ0.out HJ2.out (w.heap.size + 1) 14 16 (cl y 14) rfl (World.ownsRow.alloc HT.out _) ⟨wr.heap.size, 0, none⟩ 1 1 _ rfl rfl (one_new wr _) one_one (by decide) ?_)
            intro w4 hown hgrow
            rw [cl_succ y 14] at hown
            have HT4 : Hid (Txt w w4 15 y) := hown
            have HB4 : Hid (Below w.heap.size w w4) := (HB.out.alloc HB.out.size _).grown hgrow (by have := HB.out.size; simp; omega) (fun k hk => by injection hk with hk; omega)
            have HR4 : Hid (ElR w4 w.heap.size (a, b)) := World.rowIs.of_block (World.rowIs.alloc HR.out _) (hgrow.block w.heap.size (World.rowIs.lt (World.rowIs.alloc HR.out _)) (fun e => by injection e with e; omega))
            clear hown hgrow
            go_wp2_with (fail)
            exact ⟨⟨7, (by decide : 7 ≤ 8), rfl, rfl, hy ▸ HT4, HR4, HB4⟩, by decide⟩
          · rw [show (56 : Int) - 8 * ((7 : Nat) : Int) = 0 from rfl]
            have e0 : (b : Int) % 256 = ((wB a b 15 : Nat) : Int) := by unfold wB; simp
            generalize hy : wB a b = y at e0 HT ⊢
            go_wp2_with (at_builtin; refine wpList_append_own_spare _ rfl _ _ 27 rfl w.heap.size 5 i0 1 Try.underlying27 HJ0.out HJ2.out (w.heap.size + 1) 15 16 (cl y 15) rfl (World.ownsRow.alloc HT.out _) ⟨wr.heap.size, 0, none⟩ 1 1 _ rfl rfl (one_new wr _) one_one (by decide) ?_)
            intro w4 hown hgrow
            rw [cl_succ y 15] at hown
            have HT4 : Hid (Txt w w4 16 y) := hown
            have HB4 : Hid (Below w.heap.size w w4) := (HB.out.alloc HB.out.size _).grown hgrow (by have := HB.out.size; simp; omega) (fun k hk => by injection hk with hk; omega)
            have HR4 : Hid (ElR w4 w.heap.size (a, b)) := World.rowIs.of_block (World.rowIs.alloc HR.out _) (hgrow.block w.heap.size (World.rowIs.lt (World.rowIs.alloc HR.out _)) (fun e => by injection e with e; omega))
            clear hown hgrow
            go_wp2_with (fail)
            exact ⟨⟨8, (by decide : 8 ≤ 8), rfl, rfl, hy ▸ HT4, HR4, HB4⟩, by decide⟩
        · obtain rfl : j = 8 := by omega
          rw [show (56 : Int) - 8 * ((8 : Nat) : Int) = -8 from rfl]
          clear hlt hj
          have hcv : (convert 27 9 (.slice (some ⟨w.heap.size + 1, 0, none⟩) 16 16)).run Try.prog wr = .ok (.string (wholeS a b)) wr :=
            run_convert_bytes_arg (P := Try.prog) _ 27 5 Try.underlying27 Try.underlying5 (w.heap.size + 1) 0 16 16 ((List.range 16).map fun t => (wB a b t : Int)) (by simp) (fun i hi => by
              rw [Nat.zero_add, World.ownsRow.cellAt HT.out i (by omega), cl_get (wB a b) 16 i (by omega)]
              simp [List.getD_eq_getElem?_getD, List.getElem?_range hi]) 9 Try.underlying9
          rw [show 8 + 8 = 16 from rfl]
          clear xc
          go_wp2_with (fail)
          go_ret
          exact ⟨rfl, HB.out⟩
end Go.Proofs.Gd
