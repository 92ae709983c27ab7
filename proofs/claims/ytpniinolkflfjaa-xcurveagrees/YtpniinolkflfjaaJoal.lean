/-
  The developers' numbers: eight words in memory; sums and differences, and what they carry.
-/
import Derived.Test.YtpniinolkflfjaaJoaj
import Derived.Test.YtpniinolkflfjaaJoak
namespace Go.Proofs.Nd
open Go.RowKit
open Go.Proofs.Im (wpList_box_to words_heap words_one run_index_row)
open Go.Proofs.Sha (wordCells wordCells_get wordCells_size rowIs_of wpList_alloc_to wpList_build_to)
open Go.Proofs.Nt
open Go.Proofs.Nu (nmL nmA nmV lt8 nmA_get nmA_congr nmA_one nmA_size results_row_slot half half_at half_zero half_succ half_all B8 b8 nv8 nmA_lb nv_lt8 sub_word)
/-- Nothing that was there has changed, but block g. -/
structure But (g : Nat) (w w' : World) : Prop where
  os : w'.os = w.os
  tape : w'.tape = w.tape
  output : w'.output = w.output
  size : w.heap.size ≤ w'.heap.size
  block : ∀ k, k < w.heap.size → k ≠ g → w'.heap[k]? = w.heap[k]?
theorem But.refl (g : Nat) (w : World) : But g w w := ⟨rfl, rfl, rfl, Nat.le_refl _, fun _ _ _ => rfl⟩
theorem But.trans {g : Nat} {a b c : World} (h : But g a b) (k : But g b c) : But g a c :=
  ⟨k.os.trans h.os, k.tape.trans h.tape, k.output.trans h.output, Nat.le_trans h.size k.size, fun i hi hg => (k.block i (Nat.lt_of_lt_of_le hi h.size) hg).trans (h.block i hi hg)⟩
theorem But.drewN {g : Nat} {w w' : World} (h : But g w w') (q : Nat) : But g w (w'.drewN q) := ⟨h.os, h.tape, h.output, h.size, h.block⟩
theorem But.setCell {g : Nat} {w w' : World} (h : But g w w') (i : Nat) (v : Value) : But g w (w'.setCell ⟨g, i, none⟩ v) :=
  h.trans ⟨rfl, rfl, rfl, by simp, fun k _ hk => Below.heap_setCell w' ⟨g, i, none⟩ v k hk⟩
theorem But.of_below {g : Nat} {w w' : World} (h : Below w.heap.size w w') : But g w w' := ⟨h.os, h.tape, h.output, h.size, fun k hk _ => h.block k hk⟩
theorem But.on {g : Nat} {w u v : World} (h : But g w u) (hb : Below u.heap.size u v) : But g w v := h.trans (But.of_below hb)
theorem But.below {g B : Nat} {w0 w u : World} (h : But g w u) (hb : Below B w0 w) (hB : B ≤ g) (hs : B ≤ w.heap.size) : Below B w0 u :=
  hb.trans ⟨h.os, h.tape, h.output, h.size, fun k hk => h.block k (by omega) (by omega)⟩
theorem But.row {g b : Nat} {w u : World} {t : TypeId} {n : Nat} {f : Nat → Value} (h : But g w u) (r : w.rowIs b t n f) (hb : b ≠ g) : u.rowIs b t n f := r.of_block (h.block b r.lt hb)
/-- Eight words in memory. -/
def RP (w : World) (g : Nat) (d : Nat → Nat) : Prop := w.rowIs g 38 8 (fun i => .int .u32 (d i : Nat))
theorem RP.set {w : World} {g : Nat} {d : Nat → Nat} (h : RP w g d) (j v : Nat) : RP (w.setCell ⟨g, j, none⟩ (.int .u32 v)) g (fun i => if i = j then v else d i) :=
  World.rowIs.congr (World.rowIs.set h j (.int .u32 v)) fun i _ => by simp only []; split <;> rfl
theorem RP.congr {w : World} {g : Nat} {d e : Nat → Nat} (h : RP w g d) (he : ∀ i, i < 8 → d i = e i) : RP w g e := World.rowIs.congr h fun i hi => by rw [he i hi]
theorem RP.heap {w : World} {g : Nat} {d : Nat → Nat} (h : RP w g d) : w.heap[g]? = some (.cells (nmA d) 38 (0, 0)) := words_heap h (nmL d) rfl (lt8 rfl rfl rfl rfl rfl rfl rfl rfl)
theorem RP.new (w : World) (d : Nat → Nat) : RP (w.alloc (.cells (nmA d) 38)) w.heap.size d := rowIs_of w (nmA d) 38 8 _ rfl (nmA_get d)
theorem RP.at_ {w : World} {g : Nat} {d : Nat → Nat} (h : RP w g d) (i v : Nat) (hi : i < 8) (e : d i = v) : w.cell? ⟨g, i, none⟩ = some (.int .u32 (v : Nat)) := by rw [World.rowIs.cell h hi, e]
theorem RP.other {w : World} {g : Nat} {d : Nat → Nat} (h : RP w g d) {a : Addr} (ha : g ≠ a.block) (v : Value) : RP (w.setCell a v) g d := World.rowIs.setOther h ha v
theorem RP.drewN {w : World} {g : Nat} {d : Nat → Nat} (h : RP w g d) (q : Nat) : RP (w.drewN q) g d := h
theorem RP.on {u v : World} {g : Nat} {d : Nat → Nat} (r : RP u g d) (hb : Below u.heap.size u v) : RP v g d := World.rowIs.of_block r (hb.block g (World.rowIs.lt r))
theorem RP.but {u v : World} {g k : Nat} {d : Nat → Nat} (r : RP u k d) (hb : But g u v) (hk : k ≠ g) : RP v k d := hb.row r hk
theorem alloc8 (w : World) : (Instr.alloc 38 true (.tuple #[])).run Try.prog w = .ok (.pointer (some ⟨w.heap.size, 0, none⟩)) (w.alloc (.cells (nmA fun _ => 0) 38)) := by kernel_rfl
/-- Two boxed numbers and a result's place. -/
def Tri (w u : World) (d e : Nat → Nat) : Prop := RP u w.heap.size d ∧ RP u (w.heap.size + 1) e ∧ RP u (w.heap.size + 2) (fun _ => 0) ∧ Below w.heap.size w u
theorem tri_new (w : World) (d e : Nat → Nat) : Tri w (((w.alloc (.cells (nmA d) 38)).alloc (.cells (nmA e) 38)).alloc (.cells (nmA fun _ => 0) 38)) d e := by
  have s1 : (w.alloc (.cells (nmA d) 38)).heap.size = w.heap.size + 1 := by simp
  have h1 := RP.new w d
  have b1 : Below w.heap.size w (w.alloc (.cells (nmA d) 38)) := (Below.refl _ _).alloc (Nat.le_refl _) _
  generalize w.alloc (.cells (nmA d) 38) = w1 at s1 h1 b1 ⊢
  have s2 : (w1.alloc (.cells (nmA e) 38)).heap.size = w.heap.size + 2 := by simp; omega
  have h2 := RP.new w1 e
  rw [s1] at h2
  have b2 := b1.alloc (show w.heap.size ≤ w1.heap.size by omega) (.cells (nmA e) 38)
  have h1 := World.rowIs.alloc h1 (.cells (nmA e) 38)
  generalize w1.alloc (.cells (nmA e) 38) = w2 at s2 h1 h2 b2 ⊢
  have h3 := RP.new w2 (fun _ => 0)
  rw [s2] at h3
  exact ⟨World.rowIs.alloc h1 _, World.rowIs.alloc h2 _, h3, b2.alloc (by omega) _⟩
theorem Tri.set {w u : World} {d e : Nat → Nat} (h : Tri w u d e) (j v : Nat) : Tri w (u.setCell ⟨w.heap.size, j, none⟩ (.int .u32 v)) (fun i => if i = j then v else d i) e :=
  ⟨h.1.set j v, h.2.1.other (by simp) _, h.2.2.1.other (by simp) _, h.2.2.2.setCell (Nat.le_refl _) _⟩
theorem Tri.congr {w u : World} {d d' e : Nat → Nat} (h : Tri w u d e) (he : ∀ i, i < 8 → d i = d' i) : Tri w u d' e := ⟨h.1.congr he, h.2⟩
theorem Tri.drewN {w u : World} {d e : Nat → Nat} (m : Tri w u d e) (q : Nat) : Tri w (u.drewN q) d e := ⟨m.1, m.2.1, m.2.2.1, Lw.below_drewN m.2.2.2 q⟩
theorem carried (c : Nat) : (((c : Int) != 0) : Bool) = decide (0 < c) := by
  rcases Nat.eq_zero_or_pos c with rfl | h
  · rfl
  · rw [decide_eq_true h]
    exact bne_iff_ne.2 (by omega)
set_option maxHeartbeats 2000000 in
theorem plus_limbs (d e : Nat → Nat) (w : World) (hd : ∀ i, d i < 4294967296) (he : ∀ i, e i < 4294967296) :
    Calls Try.prog 50 #[.agg (nmA d), .agg (nmA e)] w fun x w' => x = .returned (.tuple #[.agg (nmA (ps d e)), .bool (decide (0 < pc d e 8))]) ∧ Below w.heap.size w w' := by
  have HD := Lib.hid hd
  have HE := Lib.hid he
  have HP := Lib.hid (pc_le hd he)
  clear hd he
  go_enter Try.func50, Try.ntmps50
  go_upto_region 0 with (fail)
  apply wp_region_lit
  refine wpList_box_to rfl 38 _ rfl (nmA d) (by kernel_rfl) w.heap.size rfl ?_
  refine wpList_box_to rfl 38 _ rfl (nmA e) (by kernel_rfl) (w.heap.size + 1) (by simp) ?_
  refine wpList_alloc_to rfl 38 rfl (nmA fun _ => 0) (w.heap.size + 2) (by simp) alloc8 ?_
  have HM := Lib.hid (tri_new w d e)
  generalize ((w.alloc (.cells (nmA d) 38)).alloc (.cells (nmA e) 38)).alloc (.cells (nmA fun _ => 0) 38) = w1 at HM ⊢
  generalize nmA d = Ad
  generalize nmA e = Ae
  go_wp2_with (fail)
  go_loopw [6, 9] (fun c v wx => ∃ j : Nat, Hid (j ≤ 8) ∧ v = .int .i64 j ∧ c = .int .u64 (pc d e j : Nat) ∧ Hid (Tri w wx (half (ps d e) d j) e)) (fun _ v _ => 8 - (intOf v).toNat)
  case atStart => exact ⟨0, Nat.zero_le _, rfl, rfl, HM.out.congr fun i _ => half_zero _ d i⟩
  case round =>
    clear HM
    obtain ⟨j, hj, rfl, rfl, HM⟩ := hrel
    by_cases hlt : j < 8
    · have jl : ((j : Int) < 8) = True := eq_true (by omega)
      have jl' : (j : Int) < 8 := by omega
      have x1 := HM.out.1.at_ j (d j) hlt (half_at _ _ _)
      have x2 := HM.out.2.1.at_ j (e j) hlt rfl
      have HJ := Lib.hid hlt
      have l1 := HD.out j
      have l2 := HE.out j
      have l3 := HP.out j
      have HC : Hid ((d j + e j + pc d e j) / 4294967296 = pc d e (j + 1)) := rfl
      have HQ : Hid ((d j + e j + pc d e j) % 4294967296 = ps d e j) := rfl
      generalize pc d e j = c at l3 HC HQ ⊢
      generalize d j = x at x1 l1 HC HQ
      generalize e j = y at x2 l2 HC HQ
      clear hlt
      go_wp2_with (fail)
      go_quiet (fail)
      have HM := Lib.hid (HM.out.drewN nq)
      have xf := World.rowIs.frozen HM.out.1 j
      have y1 : (wr.drewN nq).cell? ⟨w.heap.size, j, none⟩ = some (.int .u32 (x : Nat)) := x1
      clear x1 x2
      generalize wr.drewN nq = w2 at HM y1 xf ⊢
      go_wp2_with (fail)
      rw [show ((x : Int) + (y : Int) + (c : Int)) = ((x + y + c : Nat) : Int) by omega, show ((x + y + c : Nat) : Int) % 4294967296 = (((x + y + c) % 4294967296 : Nat) : Int) by omega]
      refine ⟨⟨j + 1, HJ.out, by go_num, ?_, ?_⟩, Lw.meas 8 j HJ.out⟩
      · rw [← HC.out]; rfl
      · exact (HM.out.set j ((x + y + c) % 4294967296)).congr fun i _ => by rw [HQ.out]; exact half_succ _ _ _ _
    · have jl : ((j : Int) < 8) = False := eq_false (by omega)
      obtain rfl : j = 8 := by have := hj.out; omega
      rw [show ((8 : Nat) : Int) = 8 from rfl]
      clear hlt jl hj
      have HM := Lib.hid (HM.out.congr (half_all (ps d e) d))
      have HN := Lib.hid HM.out.1.heap
      have HO := Lib.hid HM.out.2.2.1.heap
      go_upto_region 9 with (fail)
      generalize hA : nmA (ps d e) = A at HN
      apply wp_region_lit
      refine wpList_load_row rfl 38 _ rfl w.heap.size (by kernel_rfl) 38 A (0, 0) _ HN.out Try.underlying38 rfl (by rw [← hA]; kernel_rfl) ?_
      refine Lw.wpList_val rfl (.int .u64 (pc d e 8 : Nat)) wr (by go_simp) ?_
      refine Lw.wpList_val rfl (.bool (decide (0 < pc d e 8))) wr (by rw [← carried]; go_simp) ?_
      refine wpList_store_row rfl 38 _ _ rfl (w.heap.size + 2) A (by kernel_rfl) (by kernel_rfl) 38 _ HO.out (by rw [← hA]; kernel_rfl) (by rw [← hA, nmA_size, nmA_size]) (by rw [← hA]; exact nmA_one _) ?_
      refine Lw.wpList_val rfl (.bool (decide (0 < pc d e 8))) (wr.setRow (w.heap.size + 2) A) (by go_simp) ?_
      simp only [Act.put, List.setIfInBounds_toArray, List.set_cons_zero, List.set_cons_succ]
      go_wp2_with (fail)
      refine bodyPost_ret (v := .tuple #[.agg A, .bool (decide (0 < pc d e 8))]) ?_ rfl ?_
      · exact results_row_slot (fn := Try.f50) Try.results50 _ _ (w.heap.size + 2) 38 _ (0, 0) _ _ rfl rfl (setRow_heap _ _ _ _ _ _ HO.out) Try.underlying38 rfl (by rw [← hA]; kernel_rfl)
      · exact ⟨by rw [hA], below_setRow HM.out.2.2.2 (by omega) _⟩
set_option maxHeartbeats 2000000 in
theorem minus_limbs (d e : Nat → Nat) (w : World) (hd : ∀ i, d i < 4294967296) (he : ∀ i, e i < 4294967296) :
    Calls Try.prog 49 #[.agg (nmA d), .agg (nmA e)] w fun x w' => x = .returned (.tuple #[.agg (nmA (ms d e)), .bool (decide (0 < mb d e 8))]) ∧ Below w.heap.size w w' := by
  have HD := Lib.hid hd
  have HE := Lib.hid he
  clear hd he
  go_enter Try.func49, Try.ntmps49
  go_upto_region 0 with (fail)
  apply wp_region_lit
  refine wpList_box_to rfl 38 _ rfl (nmA d) (by kernel_rfl) w.heap.size rfl ?_
  refine wpList_box_to rfl 38 _ rfl (nmA e) (by kernel_rfl) (w.heap.size + 1) (by simp) ?_
  refine wpList_alloc_to rfl 38 rfl (nmA fun _ => 0) (w.heap.size + 2) (by simp) alloc8 ?_
  have HM := Lib.hid (tri_new w d e)
  generalize ((w.alloc (.cells (nmA d) 38)).alloc (.cells (nmA e) 38)).alloc (.cells (nmA fun _ => 0) 38) = w1 at HM ⊢
  generalize nmA d = Ad
  generalize nmA e = Ae
  go_wp2_with (fail)
  go_loopw [6, 9] (fun c v wx => ∃ j : Nat, Hid (j ≤ 8) ∧ v = .int .i64 j ∧ c = .int .u64 (mb d e j : Nat) ∧ Hid (Tri w wx (half (ms d e) d j) e)) (fun _ v _ => 8 - (intOf v).toNat)
  case atStart => exact ⟨0, Nat.zero_le _, rfl, rfl, HM.out.congr fun i _ => half_zero _ d i⟩
  case round =>
    clear HM
    obtain ⟨j, hj, rfl, rfl, HM⟩ := hrel
    by_cases hlt : j < 8
    · have jl : ((j : Int) < 8) = True := eq_true (by omega)
      have jl' : (j : Int) < 8 := by omega
      have x1 := HM.out.1.at_ j (d j) hlt (half_at _ _ _)
      have x2 := HM.out.2.1.at_ j (e j) hlt rfl
      have HJ := Lib.hid hlt
      have l1 := HD.out j
      have l2 := HE.out j
      have l3 := mb_le d e j
      have HC : Hid ((if d j < e j + mb d e j then 1 else 0) = mb d e (j + 1)) := rfl
      have HQ : Hid ((d j + 4294967296 - e j - mb d e j) % 4294967296 = ms d e j) := rfl
      generalize mb d e j = c at l3 HC HQ ⊢
      generalize d j = x at x1 l1 HC HQ
      generalize e j = y at x2 l2 HC HQ
      clear hlt
      go_wp2_with (fail)
      go_quiet (fail)
      have HM := Lib.hid (HM.out.drewN nq)
      have xf := World.rowIs.frozen HM.out.1 j
      have y1 : (wr.drewN nq).cell? ⟨w.heap.size, j, none⟩ = some (.int .u32 (x : Nat)) := x1
      clear x1 x2
      generalize wr.drewN nq = w2 at HM y1 xf ⊢
      go_wp2_with (fail)
      obtain ⟨D, hD, hD1, hD2, hD3⟩ := sub_word x y c l1 l2 l3
      rw [hD, show (D : Int) % 4294967296 = ((D % 4294967296 : Nat) : Int) by omega]
      refine ⟨⟨j + 1, HJ.out, by go_num, ?_, ?_⟩, Lw.meas 8 j HJ.out⟩
      · rw [← HC.out, ← hD2]; rfl
      · exact (HM.out.set j (D % 4294967296)).congr fun i _ => by rw [hD3, HQ.out]; exact half_succ _ _ _ _
    · have jl : ((j : Int) < 8) = False := eq_false (by omega)
      obtain rfl : j = 8 := by have := hj.out; omega
      rw [show ((8 : Nat) : Int) = 8 from rfl]
      clear hlt jl hj
      have HM := Lib.hid (HM.out.congr (half_all (ms d e) d))
      have HN := Lib.hid HM.out.1.heap
      have HO := Lib.hid HM.out.2.2.1.heap
      go_upto_region 9 with (fail)
      generalize hA : nmA (ms d e) = A at HN
      apply wp_region_lit
      refine wpList_load_row rfl 38 _ rfl w.heap.size (by kernel_rfl) 38 A (0, 0) _ HN.out Try.underlying38 rfl (by rw [← hA]; kernel_rfl) ?_
      refine Lw.wpList_val rfl (.int .u64 (mb d e 8 : Nat)) wr (by go_simp) ?_
      refine Lw.wpList_val rfl (.bool (decide (0 < mb d e 8))) wr (by rw [← carried]; go_simp) ?_
      refine wpList_store_row rfl 38 _ _ rfl (w.heap.size + 2) A (by kernel_rfl) (by kernel_rfl) 38 _ HO.out (by rw [← hA]; kernel_rfl) (by rw [← hA, nmA_size, nmA_size]) (by rw [← hA]; exact nmA_one _) ?_
      refine Lw.wpList_val rfl (.bool (decide (0 < mb d e 8))) (wr.setRow (w.heap.size + 2) A) (by go_simp) ?_
      simp only [Act.put, List.setIfInBounds_toArray, List.set_cons_zero, List.set_cons_succ]
      go_wp2_with (fail)
      refine bodyPost_ret (v := .tuple #[.agg A, .bool (decide (0 < mb d e 8))]) ?_ rfl ?_
      · exact results_row_slot (fn := Try.f49) Try.results49 _ _ (w.heap.size + 2) 38 _ (0, 0) _ _ rfl rfl (setRow_heap _ _ _ _ _ _ HO.out) Try.underlying38 rfl (by rw [← hA]; kernel_rfl)
      · exact ⟨by rw [hA], below_setRow HM.out.2.2.2 (by omega) _⟩
theorem plus_any (x y : Nat) (w : World) (hx : x < B8) (hy : y < B8) :
    Calls Try.prog 50 #[nmV x, nmV y] w fun e w' => e = .returned (.tuple #[nmV ((x + y) % B8), .bool (decide (B8 ≤ x + y))]) ∧ Below w.heap.size w w' := by
  have h := plus_limbs (lb x) (lb y) w (lb_lt x) (lb_lt y)
  have hp : ∀ i, ps (lb x) (lb y) i < 4294967296 := fun i => Nat.mod_lt _ (by decide)
  have hv := ps_val (lb x) (lb y) 8
  have hl := nv_lt8 hp
  have hc := pc_le (lb_lt x) (lb_lt y) 8
  rw [nv8 hx, nv8 hy, ← b8] at hv
  rw [nmA_lb hp] at h
  generalize nv (ps (lb x) (lb y)) 8 = s at h hv hl
  generalize pc (lb x) (lb y) 8 = c at h hv hc
  have e1 : (x + y) % B8 = s := by rw [← hv, Nat.add_mul_mod_self_right, Nat.mod_eq_of_lt hl]
  have e2 : decide (B8 ≤ x + y) = decide (0 < c) := by
    generalize B8 = K at *
    rcases Nat.le_one_iff_eq_zero_or_eq_one.1 hc with rfl | rfl
    · rw [decide_eq_false (by omega), decide_eq_false (by omega)]
    · rw [decide_eq_true (by omega), decide_eq_true (by omega)]
  rw [e1, e2]
  exact h
theorem minus_any (x y : Nat) (w : World) (hx : x < B8) (hy : y < B8) :
    Calls Try.prog 49 #[nmV x, nmV y] w fun e w' => e = .returned (.tuple #[nmV ((x + B8 - y) % B8), .bool (decide (x < y))]) ∧ Below w.heap.size w w' := by
  have h := minus_limbs (lb x) (lb y) w (lb_lt x) (lb_lt y)
  have hp : ∀ i, ms (lb x) (lb y) i < 4294967296 := fun i => Nat.mod_lt _ (by decide)
  have hv := ms_val (lb_lt x) (lb_lt y) 8
  have hl := nv_lt8 hp
  have hb := mb_le (lb x) (lb y) 8
  rw [nv8 hx, nv8 hy, ← b8] at hv
  rw [nmA_lb hp] at h
  generalize nv (ms (lb x) (lb y)) 8 = s at h hv hl
  generalize mb (lb x) (lb y) 8 = c at h hv hb
  have e : (x + B8 - y) % B8 = s ∧ decide (x < y) = decide (0 < c) := by
    have hB : 0 < B8 := by decide
    generalize B8 = K at *
    rcases Nat.le_one_iff_eq_zero_or_eq_one.1 hb with rfl | rfl
    · rw [show x + K - y = s + K by omega, Nat.add_mod_right, Nat.mod_eq_of_lt hl, decide_eq_false (by omega), decide_eq_false (by omega)]
      exact ⟨rfl, rfl⟩
    · rw [show x + K - y = s by omega, Nat.mod_eq_of_lt hl, decide_eq_true (by omega), decide_eq_true (by omega)]
      exact ⟨rfl, rfl⟩
  rw [e.1, e.2]
  exact h
end Go.Proofs.Nd
