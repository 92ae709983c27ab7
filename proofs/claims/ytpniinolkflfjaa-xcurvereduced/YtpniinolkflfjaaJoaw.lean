/-
  Montgomery's products of numbers that are held times 2 ^ 256. Of no program.
-/
import Derived.Test.YtpniinolkflfjaaJoat
import Derived.Test.YtpniinolkflfjaaJoav
import Derived.Test.YtpniinolkflfjaaJoae
namespace Go.Proofs.Nt
/-- A number as it is held. -/
def jm (m x : Nat) : Nat := x * 2 ^ 256 % m
theorem em_mul {m a b c d : Nat} (h1 : a % m = b % m) (h2 : c % m = d % m) : a * c % m = b * d % m := by rw [Nat.mul_mod, h1, h2, ← Nat.mul_mod]
theorem em_mod (m a : Nat) : a % m % m = a % m := Nat.mod_mod a m
theorem rI {m : Nat} (hm : Prime m) (h2 : ¬ m ∣ 2 ^ 256) : 2 ^ 256 * ((2 ^ 256 % m) ^ (m - 2) % m) % m = 1 % m := by
  have hi := inv_pow hm (Nat.pos_of_ne_zero fun e => h2 (Nat.dvd_of_mod_eq_zero e)) (Nat.mod_lt (2 ^ 256) hm.pos)
  rw [Nat.mod_mul_mod] at hi
  rw [hi]
  exact (Nat.mod_eq_of_lt (by have := hm.1; omega)).symm
theorem mt_jj {m : Nat} (hm : Prime m) (h2 : ¬ m ∣ 2 ^ 256) (x y : Nat) : mt m (jm m x) (jm m y) = jm m (x * y) := by
  unfold mt jm
  have h := rI hm h2
  generalize (2 ^ 256 % m) ^ (m - 2) % m = I at h ⊢
  generalize 2 ^ 256 = R at h ⊢
  have e1 : x * R % m * (y * R % m) * I % m = x * R * (y * R) * I % m := em_mul (em_mul (em_mod m _) (em_mod m _)) rfl
  have e2 : x * R * (y * R) * I % m = x * y * R * (R * I) % m := by
    congr 1
    simp only [Nat.mul_left_comm, Nat.mul_comm]
  rw [e1, e2, em_mul (m := m) (a := x * y * R) rfl h, Nat.mul_one]
theorem mt_jx {m : Nat} (hm : Prime m) (h2 : ¬ m ∣ 2 ^ 256) (x y : Nat) : mt m (jm m x) y = x * y % m := by
  unfold mt jm
  have h := rI hm h2
  generalize (2 ^ 256 % m) ^ (m - 2) % m = I at h ⊢
  generalize 2 ^ 256 = R at h ⊢
  have e1 : x * R % m * y * I % m = x * R * y * I % m := em_mul (em_mul (em_mod m _) rfl) rfl
  have e2 : x * R * y * I % m = x * y * (R * I) % m := by
    congr 1
    simp only [Nat.mul_left_comm, Nat.mul_comm]
  rw [e1, e2, em_mul (m := m) (a := x * y) rfl h, Nat.mul_one]
theorem mt_in {m : Nat} (hm : Prime m) (h2 : ¬ m ∣ 2 ^ 256) (x : Nat) : mt m x (2 ^ 256 * 2 ^ 256 % m) = jm m x := by
  unfold mt jm
  have h := rI hm h2
  generalize (2 ^ 256 % m) ^ (m - 2) % m = I at h ⊢
  generalize 2 ^ 256 = R at h ⊢
  have e1 : x * (R * R % m) * I % m = x * (R * R) * I % m := em_mul (em_mul (a := x) rfl (em_mod m _)) rfl
  have e2 : x * (R * R) * I % m = x * R * (R * I) % m := by
    congr 1
    simp only [Nat.mul_assoc]
  rw [e1, e2, em_mul (m := m) (a := x * R) rfl h, Nat.mul_one]
theorem jm_lt {m : Nat} (h : 0 < m) (x : Nat) : jm m x < m := Nat.mod_lt _ h
/-- One step of a power, the highest bit first. -/
theorem pow_bit (A e i : Nat) : A ^ (e / 2 ^ i) = A ^ (e / 2 ^ (i + 1)) * A ^ (e / 2 ^ (i + 1)) * (if e / 2 ^ i % 2 = 1 then A else 1) := by
  have h1 : e / 2 ^ (i + 1) = e / 2 ^ i / 2 := by rw [Nat.pow_succ, Nat.div_div_eq_div_mul]
  rw [h1, ← Nat.pow_add]
  generalize e / 2 ^ i = y
  rcases Nat.mod_two_eq_zero_or_one y with h | h
  · rw [h, if_neg (by decide), Nat.mul_one, show y / 2 + y / 2 = y by omega]
  · rw [h, if_pos rfl, ← Nat.pow_succ, show (y / 2 + y / 2).succ = y by omega]
end Go.Proofs.Nt
/-
  The document's own answer for layer 9: into and out of Montgomery's form, products.
-/
namespace Go.Proofs.Nu
open Go.RowKit
open Go.Proofs.Im (wpList_box_to words_heap words_one run_index_row)
open Go.Proofs.Sha (wordCells wordCells_get wordCells_size rowIs_of wpList_alloc_to wpList_build_to)
open Go.Proofs.Nt
open Go.Proofs.He
def sP : Nat := B8 * B8 % mP
def sN : Nat := B8 * B8 % mN
def sX : Nat := B8 * B8 % mX
def sqz (z : Int) : Nat := if z = 0 then sP else if z = 1 then sN else sX
theorem sq_eq (z : Int) : 2 ^ 256 * 2 ^ 256 % md z = sqz z := by
  have hp : (2 : Nat) ^ 256 = B8 := b8.symm
  rw [hp]
  unfold md sqz sP sN sX
  split
  · rfl
  · split <;> rfl
/-- Numbers that are held. -/
structure Hd (w u : World) (L : List (Nat × Nat)) : Prop where
  rows : ∀ p ∈ L, Nm u p.1 p.2
  below : Below w.heap.size w u
theorem Hd.on {w u v : World} {L : List (Nat × Nat)} (h : Hd w u L) (hb : Below u.heap.size u v) : Hd w v L := ⟨fun p hp => (h.rows p hp).on hb, Lw.go_on h.below hb⟩
theorem Hd.row {w u : World} {L : List (Nat × Nat)} {g : Nat} (h : Hd w u L) (hg : ∀ p ∈ L, p.1 ≠ g) (hw : w.heap.size ≤ g) (A : Array Value) : Hd w (u.setRow g A) L := ⟨fun p hp => (h.rows p hp).ne (hg p hp) A, below_setRow h.below hw _⟩
theorem md_pos (z : Int) : 0 < md z := (md_prime z).pos
set_option maxHeartbeats 1000000 in
theorem square_any (z : Int) (w : World) : Calls Try.prog 39 #[.int .i64 z] w fun e w' => e = .returned (nmV (2 ^ 256 * 2 ^ 256 % md z)) ∧ Below w.heap.size w w' := by
  rw [sq_eq]
  unfold sqz
  by_cases h0 : z = 0
  · rw [if_pos h0]
    subst h0
    go_enter Try.func39, Try.ntmps39
    go_upto_region 0 with (fail)
    apply wp_region_lit
    refine wpList_alloc_to rfl 50 rfl (nmA fun _ => 0) w.heap.size rfl alloc8 ?_
    have HO : Hid ((w.alloc (.cells (nmA fun _ => 0) 50)).heap[w.heap.size]? = some (.cells (nmA fun _ => 0) 50 (0, 0))) := heap_alloc_last _ _
    have HB : Hid (Below w.heap.size w (w.alloc (.cells (nmA fun _ => 0) 50))) := (Below.refl _ _).alloc (Nat.le_refl _) _
    generalize w.alloc (.cells (nmA fun _ => 0) 50) = w1 at HO HB ⊢
    go_upto_region 3 with (fail)
    apply wp_region_lit
    refine wpList_build_to rfl 50 _ rfl (nmA (lb sP)) (by kernel_rfl) ?_
    refine wpList_store_row rfl 50 _ _ rfl w.heap.size (nmA (lb sP)) (by kernel_rfl) (by kernel_rfl) 50 _ HO.out (by kernel_rfl) (by rw [nmA_size, nmA_size]) (nmA_one _) ?_
    simp only [Act.put, List.setIfInBounds_toArray, List.set_cons_zero, List.set_cons_succ]
    generalize hA : nmA (lb sP) = A
    go_wp2_with (fail)
    refine bodyPost_ret (v := .agg A) ?_ rfl ?_
    · exact results_cell_row (fn := Try.f39) Try.results39 _ _ w.heap.size 50 _ (0, 0) _ rfl (setRow_heap _ _ _ _ _ _ HO.out) Try.underlying50 rfl (by rw [← hA]; kernel_rfl)
    · exact ⟨by rw [← hA]; rfl, below_setRow HB.out (Nat.le_refl _) _⟩
  · have z0 : (z == 0) = false := by simpa using h0
    rw [if_neg h0]
    by_cases h1 : z = 1
    · rw [if_pos h1]
      subst h1
      go_enter Try.func39, Try.ntmps39
      go_upto_region 0 with (fail)
      apply wp_region_lit
      refine wpList_alloc_to rfl 50 rfl (nmA fun _ => 0) w.heap.size rfl alloc8 ?_
      have HO : Hid ((w.alloc (.cells (nmA fun _ => 0) 50)).heap[w.heap.size]? = some (.cells (nmA fun _ => 0) 50 (0, 0))) := heap_alloc_last _ _
      have HB : Hid (Below w.heap.size w (w.alloc (.cells (nmA fun _ => 0) 50))) := (Below.refl _ _).alloc (Nat.le_refl _) _
      generalize w.alloc (.cells (nmA fun _ => 0) 50) = w1 at HO HB ⊢
      go_upto_region 5 with (fail)
      apply wp_region_lit
      refine wpList_build_to rfl 50 _ rfl (nmA (lb sN)) (by kernel_rfl) ?_
      refine wpList_store_row rfl 50 _ _ rfl w.heap.size (nmA (lb sN)) (by kernel_rfl) (by kernel_rfl) 50 _ HO.out (by kernel_rfl) (by rw [nmA_size, nmA_size]) (nmA_one _) ?_
      simp only [Act.put, List.setIfInBounds_toArray, List.set_cons_zero, List.set_cons_succ]
      generalize hA : nmA (lb sN) = A
      go_wp2_with (fail)
      refine bodyPost_ret (v := .agg A) ?_ rfl ?_
      · exact results_cell_row (fn := Try.f39) Try.results39 _ _ w.heap.size 50 _ (0, 0) _ rfl (setRow_heap _ _ _ _ _ _ HO.out) Try.underlying50 rfl (by rw [← hA]; kernel_rfl)
      · exact ⟨by rw [← hA]; rfl, below_setRow HB.out (Nat.le_refl _) _⟩
    · have z1 : (z == 1) = false := by simpa using h1
      rw [if_neg h1]
      clear h0 h1
      go_enter Try.func39, Try.ntmps39
      go_upto_region 0 with (fail)
      apply wp_region_lit
      refine wpList_alloc_to rfl 50 rfl (nmA fun _ => 0) w.heap.size rfl alloc8 ?_
      have HO : Hid ((w.alloc (.cells (nmA fun _ => 0) 50)).heap[w.heap.size]? = some (.cells (nmA fun _ => 0) 50 (0, 0))) := heap_alloc_last _ _
      have HB : Hid (Below w.heap.size w (w.alloc (.cells (nmA fun _ => 0) 50))) := (Below.refl _ _).alloc (Nat.le_refl _) _
      generalize w.alloc (.cells (nmA fun _ => 0) 50) = w1 at HO HB ⊢
      go_upto_region 6 with (fail)
      apply wp_region_lit
      refine wpList_build_to rfl 50 _ rfl (nmA (lb sX)) (by kernel_rfl) ?_
      refine wpList_store_row rfl 50 _ _ rfl w.heap.size (nmA (lb sX)) (by kernel_rfl) (by kernel_rfl) 50 _ HO.out (by kernel_rfl) (by rw [nmA_size, nmA_size]) (nmA_one _) ?_
      simp only [Act.put, List.setIfInBounds_toArray, List.set_cons_zero, List.set_cons_succ]
      generalize hA : nmA (lb sX) = A
      go_wp2_with (fail)
      refine bodyPost_ret (v := .agg A) ?_ rfl ?_
      · exact results_cell_row (fn := Try.f39) Try.results39 _ _ w.heap.size 50 _ (0, 0) _ rfl (setRow_heap _ _ _ _ _ _ HO.out) Try.underlying50 rfl (by rw [← hA]; kernel_rfl)
      · exact ⟨by rw [← hA]; rfl, below_setRow HB.out (Nat.le_refl _) _⟩
set_option maxHeartbeats 2000000 in
set_option maxRecDepth 20000 in
theorem into_any (z : Int) (x : Nat) (w : World) (hx : x < md z) : Calls Try.prog 26 #[.int .i64 z, nmV x] w fun e w' => e = .returned (nmV (jm (md z) x)) ∧ Below w.heap.size w w' := by
  have HSq := Lib.hid (fun u => square_any z u)
  have HMt := Lib.hid (fun u => mont_any z x (2 ^ 256 * 2 ^ 256 % md z) u hx (Nat.lt_trans (Nat.mod_lt _ (md_pos z)) (md_lt z)))
  rw [mt_in (md_prime z) (md_256 z)] at HMt
  generalize jm (md z) x = R at HMt ⊢
  generalize 2 ^ 256 * 2 ^ 256 % md z = q at HSq HMt
  clear hx
  go_enter Try.func26, Try.ntmps26
  go_upto_region 0 with (fail)
  apply wp_region_lit
  refine wpList_box_to rfl 50 _ rfl (nmA (lb x)) (by kernel_rfl) w.heap.size rfl ?_
  refine wpList_alloc_to rfl 50 rfl (nmA fun _ => 0) (w.heap.size + 1) (by simp) alloc8 ?_
  have HX : Hid (Nm ((w.alloc (.cells (nmA (lb x)) 50)).alloc (.cells (nmA fun _ => 0) 50)) w.heap.size x) := (Nm.new w x).alloc _
  have HO : Hid (Nm ((w.alloc (.cells (nmA (lb x)) 50)).alloc (.cells (nmA fun _ => 0) 50)) (w.heap.size + 1) 0) := by
    have h := Nm.new0 (w.alloc (.cells (nmA (lb x)) 50))
    rw [show (w.alloc (.cells (nmA (lb x)) 50)).heap.size = w.heap.size + 1 by simp] at h
    exact h
  have HB : Hid (Below w.heap.size w ((w.alloc (.cells (nmA (lb x)) 50)).alloc (.cells (nmA fun _ => 0) 50))) := ((Below.refl _ _).alloc (Nat.le_refl _) _).alloc (by simp) _
  generalize (w.alloc (.cells (nmA (lb x)) 50)).alloc (.cells (nmA fun _ => 0) 50) = w1 at HX HO HB ⊢
  go_upto_region 1 with (fail)
  have HSx : Hid (Hd w w1.drew [(w.heap.size, x)]) := ⟨by
    intro p hp
    simp only [List.mem_cons, List.not_mem_nil, or_false] at hp
    first
      | (rcases hp with rfl | rfl; exact HX.out.on (Below.refl _ _).drew; exact HY.out.on (Below.refl _ _).drew)
      | (subst hp; exact HX.out.on (Below.refl _ _).drew), HB.out.drew⟩
  have HO := Lib.hid (HO.out.on (Below.refl _ _).drew)
  clear HX HB
  refine wp_region_held (S := fun u => Hd w u [(w.heap.size, x)]) (by kernel_rfl) ?_
  change wpAnyH _ _ _ _ _ _ _ _ w1.drew
  refine takeH (i := 0) (some 5) (.int .i64 z) rfl rfl rfl (by kernel_rfl) (by kernel_rfl) (by kernel_rfl) (fun _ _ _ h => h) (fun w _ => by go_simp) HSx.out ?_
  simp only [Act.put, List.setIfInBounds_toArray, List.set_cons_zero, List.set_cons_succ]
  refine takeH (i := 1) (some 6) (.agg (nmA (lb x))) rfl rfl rfl (by kernel_rfl) (by kernel_rfl) (by kernel_rfl) (fun _ _ _ h => h) (load_row 50 _ rfl w.heap.size (by kernel_rfl) 50 (nmA (lb x)) (0, 0) _ Try.underlying50 rfl (by kernel_rfl) (fun _ h => h.rows (w.heap.size, x) (by simp))) HSx.out ?_
  simp only [Act.put, List.setIfInBounds_toArray, List.set_cons_zero, List.set_cons_succ]
  refine takeH (i := 2) (some 7) (.int .i64 z) rfl rfl rfl (by kernel_rfl) (by kernel_rfl) (by kernel_rfl) (fun _ _ _ h => h) (fun w _ => by go_simp) HSx.out ?_
  simp only [Act.put, List.setIfInBounds_toArray, List.set_cons_zero, List.set_cons_succ]
  refine wpAnyH_ready (rs := [3]) (by kernel_rfl) (by simp) ?_
  refine callH (some 8) rfl rfl rfl 39 _ _ rfl (fun _ _ => by go_simp) #[.int .i64 z] (by kernel_rfl) ?_ AllReadyH.nil
  refine (HSq.out _).mono ?_
  rintro e u2 ⟨rfl, hb⟩
  refine ⟨_, rfl, HSx.out.on hb, ?_⟩
  have HSx := Lib.hid (HSx.out.on hb)
  have HO := Lib.hid (HO.out.on hb)
  clear hb
  simp only [Act.put, List.setIfInBounds_toArray, List.set_cons_zero, List.set_cons_succ]
  refine wpAnyH_ready (rs := [4]) (by kernel_rfl) (by simp) ?_
  refine callH (some 9) rfl rfl rfl 36 _ _ rfl (fun _ _ => by go_simp) #[.int .i64 z, nmV x, nmV q] (by kernel_rfl) ?_ AllReadyH.nil
  refine (HMt.out _).mono ?_
  rintro e u3 ⟨rfl, hb⟩
  refine ⟨_, rfl, HSx.out.on hb, ?_⟩
  have HSx := Lib.hid (HSx.out.on hb)
  have HO := Lib.hid (HO.out.on hb)
  clear hb
  simp only [Act.put, List.setIfInBounds_toArray, List.set_cons_zero, List.set_cons_succ]
  refine wpAnyH_ready (rs := [5]) (by kernel_rfl) (by simp) ?_
  refine storeH rfl rfl rfl 50 _ _ rfl (w.heap.size + 1) (nmA (lb R)) (by kernel_rfl) (by kernel_rfl) 50 _ HO.out (by kernel_rfl) (by rw [nmA_size, nmA_size]) (nmA_one _) (HSx.out.row (by intro p hp; simp only [List.mem_cons, List.not_mem_nil, or_false] at hp; first | (rcases hp with rfl | rfl <;> (show _ ≠ _; omega)) | (subst hp; show _ ≠ _; omega)) (by omega) _) ?_ AllReadyH.nil
  have HOn := Lib.hid (HO.out.set R)
  have HBn := Lib.hid (below_setRow HSx.out.below (show w.heap.size ≤ (w.heap.size + 1) by omega) (nmA (lb R)))
  clear HSx HO
  simp only [Act.put]
  refine wpAnyH_done (by kernel_rfl) ?_ _
  go_wp2_with (fail)
  refine bodyPost_ret (v := nmV R) ?_ rfl ?_
  · exact results_cell_row (fn := Try.f26) Try.results26 _ _ (w.heap.size + 1) 50 _ (0, 0) _ rfl HOn.out Try.underlying50 rfl (by kernel_rfl)
  · exact ⟨rfl, HBn.out⟩
set_option maxHeartbeats 2000000 in
set_option maxRecDepth 20000 in
theorem out_any (z : Int) (x : Nat) (w : World) (hx : x < md z) : Calls Try.prog 37 #[.int .i64 z, nmV x] w fun e w' => e = .returned (nmV (mt (md z) x 1)) ∧ Below w.heap.size w w' := by
  have HMt := Lib.hid (fun u => mont_any z x 1 u hx (by decide))
  generalize mt (md z) x 1 = R at HMt ⊢
  clear hx
  go_enter Try.func37, Try.ntmps37
  go_upto_region 0 with (fail)
  apply wp_region_lit
  refine wpList_box_to rfl 50 _ rfl (nmA (lb x)) (by kernel_rfl) w.heap.size rfl ?_
  refine wpList_alloc_to rfl 50 rfl (nmA fun _ => 0) (w.heap.size + 1) (by simp) alloc8 ?_
  have HX : Hid (Nm ((w.alloc (.cells (nmA (lb x)) 50)).alloc (.cells (nmA fun _ => 0) 50)) w.heap.size x) := (Nm.new w x).alloc _
  have HO : Hid (Nm ((w.alloc (.cells (nmA (lb x)) 50)).alloc (.cells (nmA fun _ => 0) 50)) (w.heap.size + 1) 0) := by
    have h := Nm.new0 (w.alloc (.cells (nmA (lb x)) 50))
    rw [show (w.alloc (.cells (nmA (lb x)) 50)).heap.size = w.heap.size + 1 by simp] at h
    exact h
  have HB : Hid (Below w.heap.size w ((w.alloc (.cells (nmA (lb x)) 50)).alloc (.cells (nmA fun _ => 0) 50))) := ((Below.refl _ _).alloc (Nat.le_refl _) _).alloc (by simp) _
  generalize (w.alloc (.cells (nmA (lb x)) 50)).alloc (.cells (nmA fun _ => 0) 50) = w1 at HX HO HB ⊢
  go_upto_region 1 with (fail)
  apply wp_region_lit
  refine Lw.wpList_val rfl (.int .i64 z) w1 (by go_simp) ?_
  refine wpList_load_row rfl 50 _ rfl w.heap.size (by kernel_rfl) 50 (nmA (lb x)) (0, 0) _ HX.out Try.underlying50 rfl (by kernel_rfl) ?_
  refine wpList_build_to rfl 50 _ rfl (nmA (lb 1)) (by kernel_rfl) ?_
  simp only [Act.put, List.setIfInBounds_toArray, List.set_cons_zero, List.set_cons_succ]
  refine Lw.wpList_callTo (some 8) rfl rfl 36 _ _ rfl (fun _ _ => by go_simp) #[.int .i64 z, nmV x, nmV 1] (by kernel_rfl) ?_
  refine (HMt.out _).mono ?_
  rintro e u3 ⟨rfl, hb⟩
  refine ⟨_, rfl, ?_⟩
  have HX := Lib.hid (HX.out.on hb)
  have HO := Lib.hid (HO.out.on hb)
  have HB := Lib.hid (Lw.go_on HB.out hb)
  clear hb
  refine wpList_store_row rfl 50 _ _ rfl (w.heap.size + 1) (nmA (lb R)) (by kernel_rfl) (by kernel_rfl) 50 _ HO.out (by kernel_rfl) (by rw [nmA_size, nmA_size]) (nmA_one _) ?_
  simp only [Act.put, List.setIfInBounds_toArray, List.set_cons_zero, List.set_cons_succ]
  go_wp2_with (fail)
  refine bodyPost_ret (v := nmV R) ?_ rfl ?_
  · exact results_cell_row (fn := Try.f37) Try.results37 _ _ (w.heap.size + 1) 50 _ (0, 0) _ rfl (HO.out.set R) Try.underlying50 rfl (by kernel_rfl)
  · exact ⟨rfl, below_setRow HB.out (by omega) _⟩
end Go.Proofs.Nu
