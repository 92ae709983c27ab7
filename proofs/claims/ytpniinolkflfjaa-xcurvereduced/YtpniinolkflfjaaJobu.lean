/-
  The developers' X25519: a scalar's bytes, clamped; its bits.
-/
import Derived.Test.YtpniinolkflfjaaJobm
import Derived.Test.YtpniinolkflfjaaJobt
namespace Go.Proofs.Xe
open Go.RowKit
open Go.Proofs.Im (words_heap words_one wpList_box_to)
open Go.Proofs.Sha (wordCells wordCells_get rowIs_of wpList_alloc_to)
open Go.Proofs.Nt
open Go.Proofs.Aes (byt byt_lt get_byt)
open Go.Proofs.Xu (rv rv_size rv_byt cl kE)
/-- A scalar's cells. -/
def scL (F : Nat → Nat) : List Nat := (List.range 32).map F
def scA (F : Nat → Nat) : Array Value := wordCells .u8 (scL F)
def scV (F : Nat → Nat) : Value := .agg (scA F)
theorem scL_get (F : Nat → Nat) (i : Nat) (hi : i < 32) : F i = (scL F).getD i 0 := by simp [scL, List.getD_eq_getElem?_getD, hi]
theorem scA_one (F : Nat → Nat) : (scA F).all (·.oneCell') = true := words_one _ _
theorem scA_get (F : Nat → Nat) (i : Nat) (hi : i < 32) : (scA F)[i]? = some (.int .u8 (F i : Nat)) := by rw [scL_get F i hi]; exact wordCells_get _ _ i (by simp [scL, hi])
/-- A scalar in memory. -/
def Sc (u : World) (g : Nat) (F : Nat → Nat) : Prop := u.rowIs g 47 32 (fun i => .int .u8 (F i : Nat))
theorem Sc.new (w : World) (F : Nat → Nat) : Sc (w.alloc (.cells (scA F) 47)) w.heap.size F := rowIs_of w (scA F) 47 32 _ rfl (scA_get F)
theorem Sc.heap {u : World} {g : Nat} {F : Nat → Nat} (h : Sc u g F) : u.heap[g]? = some (.cells (scA F) 47 (0, 0)) := words_heap h (scL F) rfl (scL_get F)
theorem Sc.set {u : World} {g : Nat} {F : Nat → Nat} (h : Sc u g F) (j v : Nat) : Sc (u.setCell ⟨g, j, none⟩ (.int .u8 v)) g (fun i => if i = j then v else F i) := World.rowIs.congr (World.rowIs.set h j (.int .u8 v)) fun i _ => by simp only []; split <;> rfl
theorem Sc.congr {u : World} {g : Nat} {F G : Nat → Nat} (h : Sc u g F) (e : ∀ i, i < 32 → F i = G i) : Sc u g G := World.rowIs.congr h fun i hi => by rw [e i hi]
theorem alloc_s (w : World) : (Instr.alloc 47 true (.tuple #[])).run Try.prog w = .ok (.pointer (some ⟨w.heap.size, 0, none⟩)) (w.alloc (.cells (scA fun _ => 0) 47)) := by kernel_rfl
/-- Bytes as values. -/
def bv (V : Nat → Nat) (n : Nat) : List Value := (List.range n).map fun j => .int .u8 (V j : Nat)
theorem bv_len (V : Nat → Nat) (n : Nat) : (bv V n).length = n := by simp [bv]
theorem bv_get (V : Nat → Nat) (n j : Nat) (h : j < n) : (bv V n)[j]? = some (.int .u8 (V j : Nat)) := by simp [bv, h]
theorem bv_one (V : Nat → Nat) (n : Nat) : ∀ v ∈ bv V n, v.oneCell' = true := by
  intro v hv
  simp only [bv, List.mem_map] at hv
  obtain ⟨_, _, rfl⟩ := hv
  rfl
theorem bytes_bv (t : ByteArray) (L : Nat) (h : L ≤ t.size) : List.take L (List.map (fun b : UInt8 => Value.int IntKind.u8 (b.toNat : Int)) t.data.toList) = bv (byt t) L := by
  apply List.ext_getElem?
  intro j
  by_cases hj : j < L
  · rw [bv_get _ _ _ hj, List.getElem?_take_of_lt hj, List.getElem?_map, Array.getElem?_toList, Array.getElem?_eq_getElem (show j < t.data.size from Nat.lt_of_lt_of_le hj h), ← get_byt t j (Nat.lt_of_lt_of_le hj h)]
    rfl
  · rw [List.getElem?_eq_none (l := bv (byt t) L) (by rw [bv_len]; omega), List.getElem?_eq_none (by rw [List.length_take]; omega)]
theorem rowIs_setCells {b : Nat} {t : TypeId} {n : Nat} : ∀ (vs : List Value) (o : Nat) (w : World) (f : Nat → Value), w.rowIs b t n f → (w.setCells b o vs).rowIs b t n (fun i => if o ≤ i ∧ i < o + vs.length then vs.getD (i - o) (.int .u8 0) else f i)
  | [], o, w, f, h => h.congr fun i _ => by rw [if_neg (by simp only [List.length_nil]; omega)]
  | v :: r, o, w, f, h => by
    have := rowIs_setCells r (o + 1) _ _ (h.set o v)
    refine World.rowIs.congr this fun i _ => ?_
    by_cases hi : i = o
    · subst hi
      rw [if_neg (by omega), if_pos rfl, if_pos ⟨Nat.le_refl _, by simp only [List.length_cons]; omega⟩, Nat.sub_self]; rfl
    · rw [if_neg hi]
      by_cases h2 : o + 1 ≤ i ∧ i < o + 1 + r.length
      · rw [if_pos h2, if_pos ⟨by omega, by simp only [List.length_cons]; omega⟩, show i - o = (i - (o + 1)) + 1 by omega]; rfl
      · rw [if_neg h2, if_neg (by simp only [List.length_cons]; omega)]
/-- 'copy(dst, s)' of a text of 32 bytes over a scalar. -/
theorem copy_scalar (w : World) (g : Nat) (F : Nat → Nat) (t : ByteArray) (ht : t.size = 32) (H : Sc w g F) :
    (Builtin.copy_ #[32, 9] 3 #[.slice (some ⟨g, 0, none⟩) 32 32, .string t]).run Try.prog w = .ok (goInt 32) (w.setCells g 0 (bv (byt t) 32)) := by
  have hz : ∀ w, (Go.sizeOf 5).run Try.prog w = .ok 1 w := fun w => by
    have hi : (Try.prog.info? 5).map (·.size) = some 1 := by kernel_rfl
    cases hq : Try.prog.info? 5 with
    | none => simp [hq] at hi
    | some i => simp [hq] at hi; simp [sizeOf, typeInfo, hq, hi]
  have hmin : Nat.min t.size 32 = 32 := by rw [ht]; rfl
  have htk := bytes_bv t 32 (by omega)
  have hst := run_storeCells_cells (P := Try.prog) g 0 (bv (byt t) 32) 0 w (fun j hj => by rw [bv_len] at hj; rw [Nat.add_zero, Nat.zero_add, World.rowIs.cell H hj]; rfl) (fun j hj => by rw [Nat.add_zero]; exact World.rowIs.frozen H _) (bv_one _ _)
  simp only [Nat.add_zero] at hst
  simp [Builtin.copy_, run_underlying Try.underlying32, Builtin.lenOf, Builtin.firstCells, hz, hmin]
  rw [htk, hst]
  rfl
theorem copied {w : World} {g : Nat} {F : Nat → Nat} (t : ByteArray) (H : Sc w g F) : Sc (w.setCells g 0 (bv (byt t) 32)) g (byt t) :=
  World.rowIs.congr (rowIs_setCells _ 0 w _ H) fun i hi => by
    rw [if_pos ⟨Nat.zero_le _, by rw [bv_len]; omega⟩, Nat.sub_zero, List.getD_eq_getElem?_getD, bv_get _ _ i hi]
    rfl
theorem setCells_below {B g : Nat} (hg : B ≤ g) {w : World} : ∀ (vs : List Value) (o : Nat) (u : World), Below B w u → Below B w (u.setCells g o vs)
  | [], _, _, h => h
  | v :: r, o, _, h => setCells_below hg r (o + 1) _ (h.setCell (p := ⟨g, o, none⟩) hg v)
theorem row_far {g k : Nat} {F : Nat → Nat} (vs : List Value) (o : Nat) {u : World} (h : Sc u k F) (hk : k ≠ g) : Sc (u.setCells g o vs) k F := by
  induction vs generalizing o u with
  | nil => exact h
  | cons v r ih => exact ih (o + 1) (World.rowIs.setOther h (fun c => hk c) v)
/-- A clamped scalar's bytes. -/
def cb (k : ByteArray) (i : Nat) : Nat := if i = 31 then byt k 31 &&& 127 ||| 64 else if i = 0 then byt k 0 &&& 248 else byt k i
theorem cb_lt (k : ByteArray) (i : Nat) : cb k i < 256 := by
  unfold cb
  split
  · exact Nat.or_lt_two_pow (n := 8) (Nat.lt_of_le_of_lt Nat.and_le_right (by decide)) (by decide)
  · split
    · exact Nat.lt_of_le_of_lt Nat.and_le_right (by decide)
    · exact byt_lt k i
set_option maxHeartbeats 4000000 in
set_option maxRecDepth 20000 in
theorem bit_any (F : Nat → Nat) (hF : ∀ i, F i < 256) (t : Nat) (ht : t < 256) (w : World) : Calls Try.prog 29 #[scV F, .int .i64 (t : Nat)] w fun e u => e = .returned (.int .u32 ((F (t / 8) / 2 ^ (t % 8) % 2 : Nat) : Int)) ∧ Below w.heap.size w u := by
  obtain ⟨q, hq⟩ : ∃ q, t / 8 = q := ⟨_, rfl⟩
  obtain ⟨r, hr⟩ : ∃ r, t % 8 = r := ⟨_, rfl⟩
  have q32 : q < 32 := by omega
  have l1 := hF q
  rw [hq, hr]
  have hc := Lib.hid (scA_get F q q32)
  obtain ⟨L, hL⟩ : ∃ L, F q = L := ⟨_, rfl⟩
  rw [hL] at hc l1 ⊢
  obtain ⟨c, hcc⟩ : ∃ c, L / 2 ^ r % 2 = c := ⟨_, rfl⟩
  have e1 : bits .and .u8 ((L : Int) / 2 ^ r) 1 = (c : Int) := by
    have e0 : (L : Int) / 2 ^ r = ((L / 2 ^ r : Nat) : Int) := by rw [Int.natCast_ediv, Int.natCast_pow]; rfl
    have h0 : L / 2 ^ r < 256 := Nat.lt_of_le_of_lt (Nat.div_le_self _ _) l1
    have h1 := u8_and_nat (L / 2 ^ r) 1 h0 (by decide)
    rw [Nat.and_one_is_mod, hcc] at h1
    rw [e0]; exact h1
  have c2 : c < 2 := by omega
  rw [hcc]
  have t1 : IntKind.i64.wrap ((t : Int) / 8) = (q : Int) := by rw [IntWalk.i64_in _ (by omega)]; omega
  have t2 : (t : Int) / 8 = (q : Int) := by omega
  have t3 : (t : Int) % 8 = (r : Int) := by omega
  have t4 : (t : Int).tmod 8 = (r : Int) := by rw [Int.tmod_eq_emod_of_nonneg (by omega)]; exact t3
  have t5 : (t : Int).tdiv 8 = (q : Int) := by rw [Int.tdiv_eq_ediv_of_nonneg (by omega)]; exact t2
  have qb : (q : Int) < 32 := by omega
  have rb : (r : Int) < 8 := by omega
  have tb : (t : Int) < 256 := by omega
  clear hq hr hL hcc hF
  go_enter Try.func29, Try.ntmps29
  go_upto_region 0 with (fail)
  apply wp_region_lit
  refine wpList_box_to rfl 47 _ rfl (scA F) (by kernel_rfl) w.heap.size rfl ?_
  have HB : Hid (Below w.heap.size w (w.alloc (.cells (scA F) 47))) := (Below.refl _ _).alloc (Nat.le_refl _) _
  have hx : (w.alloc (.cells (scA F) 47)).cell? ⟨w.heap.size, q, none⟩ = some (.int .u8 (L : Nat)) := by rw [cell_of_row _ _ q _ _ _ (heap_alloc_last w (.cells (scA F) 47))]; exact hc.out
  generalize w.alloc (.cells (scA F) 47) = w1 at HB hx ⊢
  generalize scA F = FA at hc ⊢
  generalize scV F = FV
  clear hc
  go_wp2_with (fail)
  go_ret
  exact ⟨rfl, HB.out⟩
set_option maxHeartbeats 4000000 in
set_option maxRecDepth 20000 in
theorem clamped_any (k : ByteArray) (w : World) (hk : k.size = 32) : Calls Try.prog 15 #[.string k] w fun e u => e = .returned (scV (cb k)) ∧ Below w.heap.size w u := by
  have HK := Lib.hid hk
  have l0 := byt_lt k 0
  have l31 := byt_lt k 31
  have e0 : bits .and .u8 (byt k 0 : Int) 248 = ((byt k 0 &&& 248 : Nat) : Int) := u8_and_nat (byt k 0) 248 l0 (by decide)
  have e1 : bits .and .u8 (byt k 31 : Int) 127 = ((byt k 31 &&& 127 : Nat) : Int) := u8_and_nat (byt k 31) 127 l31 (by decide)
  have lx : byt k 31 &&& 127 < 256 := Nat.lt_of_le_of_lt Nat.and_le_right (by decide)
  have e2 : bits .or .u8 ((byt k 31 &&& 127 : Nat) : Int) 64 = ((byt k 31 &&& 127 ||| 64 : Nat) : Int) := u8_or_nat (byt k 31 &&& 127) 64 lx (by decide)
  have HN : Hid (∀ i, i < 32 → (if i = 31 then byt k 31 &&& 127 ||| 64 else if i = 0 then byt k 0 &&& 248 else byt k i) = cb k i) := fun i _ => rfl
  clear hk
  go_enter Try.func15, Try.ntmps15
  go_upto_region 0 with (fail)
  apply wp_region_lit
  refine wpList_alloc_to rfl 47 rfl (scA fun _ => 0) w.heap.size rfl alloc_s ?_
  go_upto_region 1 with (fail)
  apply wp_region_lit
  refine wpList_alloc_to rfl 47 rfl (scA fun _ => 0) (w.heap.size + 1) (by simp) alloc_s ?_
  simp only [Act.put, List.setIfInBounds_toArray, List.set_cons_zero, List.set_cons_succ]
  have HR : Hid (Sc ((w.alloc (.cells (scA fun _ => 0) 47)).alloc (.cells (scA fun _ => 0) 47)) w.heap.size (fun _ => 0)) := World.rowIs.alloc (Sc.new w (fun _ => 0)) _
  have HS := Lib.hid (Sc.new (w.alloc (.cells (scA fun _ => 0) 47)) (fun _ => 0))
  rw [show (w.alloc (.cells (scA fun _ => 0) 47)).heap.size = w.heap.size + 1 by simp] at HS
  have HB : Hid (Below w.heap.size w ((w.alloc (.cells (scA fun _ => 0) 47)).alloc (.cells (scA fun _ => 0) 47))) := ((Below.refl _ _).alloc (Nat.le_refl _) _).alloc (by simp) _
  generalize (w.alloc (.cells (scA fun _ => 0) 47)).alloc (.cells (scA fun _ => 0) 47) = w1 at HR HS HB ⊢
  have hcp := copy_scalar w1 (w.heap.size + 1) (fun _ => 0) k HK.out HS.out
  have HR : Hid (Sc (w1.setCells (w.heap.size + 1) 0 (bv (byt k) 32)) w.heap.size (fun _ => 0)) := row_far (bv (byt k) 32) 0 HR.out (by omega)
  have HS := Lib.hid (copied k HS.out)
  have HB := Lib.hid (setCells_below (show w.heap.size ≤ w.heap.size + 1 by omega) (bv (byt k) 32) 0 w1 HB.out)
  generalize w1.setCells (w.heap.size + 1) 0 (bv (byt k) 32) = w2 at HR HS HB hcp
  go_upto_region 3 with (fail)
  clear hcp
  have c0 := World.rowIs.cell HS.out (i := 0) (by decide)
  have f0 := World.rowIs.frozen HS.out 0
  go_upto_region 4 with (fail)
  have HR : Hid (Sc (w2.setCell ⟨w.heap.size + 1, 0, none⟩ (.int .u8 (byt k 0 &&& 248 : Nat))) w.heap.size (fun _ => 0)) := World.rowIs.setOther HR.out (show w.heap.size ≠ w.heap.size + 1 by omega) _
  have HS := Lib.hid (HS.out.set 0 (byt k 0 &&& 248))
  have HB := Lib.hid (HB.out.setCell (p := ⟨w.heap.size + 1, 0, none⟩) (show w.heap.size ≤ w.heap.size + 1 by omega) (.int .u8 (byt k 0 &&& 248 : Nat)))
  clear c0 f0
  generalize w2.setCell ⟨w.heap.size + 1, 0, none⟩ (.int .u8 (byt k 0 &&& 248 : Nat)) = w3 at HR HS HB ⊢
  have c0 : w3.cell? ⟨w.heap.size + 1, 31, none⟩ = some (.int .u8 (byt k 31 : Nat)) := World.rowIs.cell HS.out (i := 31) (by decide)
  have f0 := World.rowIs.frozen HS.out 31
  go_upto_region 5 with (fail)
  have HR : Hid (Sc (w3.setCell ⟨w.heap.size + 1, 31, none⟩ (.int .u8 (byt k 31 &&& 127 ||| 64 : Nat))) w.heap.size (fun _ => 0)) := World.rowIs.setOther HR.out (show w.heap.size ≠ w.heap.size + 1 by omega) _
  have HS := Lib.hid ((HS.out.set 31 (byt k 31 &&& 127 ||| 64)).congr HN.out)
  have HB := Lib.hid (HB.out.setCell (p := ⟨w.heap.size + 1, 31, none⟩) (show w.heap.size ≤ w.heap.size + 1 by omega) (.int .u8 (byt k 31 &&& 127 ||| 64 : Nat)))
  clear c0 f0
  generalize w3.setCell ⟨w.heap.size + 1, 31, none⟩ (.int .u8 (byt k 31 &&& 127 ||| 64 : Nat)) = w4 at HR HS HB ⊢
  have HN0 := Lib.hid HR.out.heap
  have HN1 := Lib.hid HS.out.heap
  generalize hA : scA (cb k) = A at HN1
  apply wp_region_lit
  refine wpList_load_row rfl 47 _ rfl (w.heap.size + 1) (by kernel_rfl) 47 A (0, 0) _ HN1.out Try.underlying47 rfl (by rw [← hA]; kernel_rfl) ?_
  refine wpList_store_row rfl 47 _ _ rfl w.heap.size A (by kernel_rfl) (by kernel_rfl) 47 _ HN0.out (by rw [← hA]; kernel_rfl) (by rw [← hA]; rfl) (by rw [← hA]; exact scA_one _) ?_
  simp only [Act.put, List.setIfInBounds_toArray, List.set_cons_zero, List.set_cons_succ]
  go_wp2_with (fail)
  refine bodyPost_ret (v := .agg A) ?_ rfl ?_
  · exact results_cell_row (fn := Try.f15) Try.results15 _ _ w.heap.size 47 _ (0, 0) _ rfl (setRow_heap _ _ _ _ _ _ HN0.out) Try.underlying47 rfl (by rw [← hA]; kernel_rfl)
  · exact ⟨by rw [← hA]; rfl, below_setRow HB.out (Nat.le_refl _) _⟩
/-- A byte of the number that the bytes say. -/
theorem byte_of (k : ByteArray) (i : Nat) (hi : i < 32) : bn (rv k) / 256 ^ i % 256 = byt k i := by
  have h := bg_tb (rv k) (31 - i) 32 (by omega)
  rw [rv_byt k (31 - i) (by omega), show 31 - (31 - i) = i by omega] at h
  exact h
theorem bit_of (k : ByteArray) (i r : Nat) (hi : i < 32) (hr : r < 8) : (byt k i).testBit r = (bn (rv k)).testBit (8 * i + r) := by
  rw [← byte_of k i hi, show (256 : Nat) ^ i = 2 ^ (8 * i) by rw [Nat.pow_mul], show (256 : Nat) = 2 ^ 8 by decide, Nat.testBit_mod_two_pow, Nat.testBit_div_two_pow, decide_eq_true hr, Bool.true_and, Nat.add_comm]
theorem cl_bit (n t : Nat) (ht : t < 255) : (cl n).testBit t = (decide (t = 254) || (decide (3 ≤ t) && n.testBit t)) := by
  have hb : n % 2 ^ 254 / 8 * 8 < 2 ^ 254 := Nat.lt_of_le_of_lt (Nat.div_mul_le_self _ _) (Nat.mod_lt _ (by decide))
  unfold cl
  rw [show n % 2 ^ 254 / 8 * 8 + 2 ^ 254 = 2 ^ 254 * 1 + n % 2 ^ 254 / 8 * 8 by rw [Nat.mul_one, Nat.add_comm], Nat.testBit_two_pow_mul_add 1 hb]
  by_cases h : t < 254
  · rw [if_pos h, decide_eq_false (show ¬ t = 254 by omega), Bool.false_or, show n % 2 ^ 254 / 8 * 8 = n % 2 ^ 254 / 2 ^ 3 * 2 ^ 3 from rfl, Nat.testBit_mul_two_pow]
    by_cases h3 : 3 ≤ t
    · rw [Nat.testBit_div_two_pow, Nat.testBit_mod_two_pow, show t - 3 + 3 = t by omega, decide_eq_true h, Bool.true_and]
    · rw [decide_eq_false h3, Bool.false_and, Bool.false_and]
  · obtain rfl : t = 254 := by omega
    rw [if_neg h]; rfl
theorem low_bits : ∀ r : Fin 8, (248 : Nat).testBit r.val = decide (3 ≤ r.val) ∧ (127 : Nat).testBit r.val = decide (r.val < 7) ∧ (64 : Nat).testBit r.val = decide (r.val = 6) := by decide
theorem cb_bit (k : ByteArray) (t : Nat) (ht : t < 255) : (cb k (t / 8)).testBit (t % 8) = (cl (bn (rv k))).testBit t := by
  have hr : t % 8 < 8 := Nat.mod_lt _ (by decide)
  have hq : t / 8 < 32 := by omega
  have hb := low_bits ⟨t % 8, hr⟩
  have hk := bit_of k (t / 8) (t % 8) hq hr
  rw [Nat.div_add_mod] at hk
  rw [cl_bit _ t ht]
  unfold cb
  by_cases h31 : t / 8 = 31
  · rw [if_pos h31, Nat.testBit_or, Nat.testBit_and, hb.2.1, hb.2.2, ← h31, hk]
    simp only []
    by_cases h6 : t % 8 = 6
    · rw [decide_eq_true h6, decide_eq_true (show t = 254 by omega), Bool.or_true, Bool.true_or]
    · rw [decide_eq_false h6, decide_eq_false (show ¬ t = 254 by omega), decide_eq_true (show t % 8 < 7 by omega), decide_eq_true (show 3 ≤ t by omega), Bool.and_true, Bool.or_false, Bool.true_and, Bool.false_or]
  · rw [if_neg h31, decide_eq_false (show ¬ t = 254 by omega), Bool.false_or]
    by_cases h0 : t / 8 = 0
    · rw [if_pos h0, Nat.testBit_and, hb.1, ← h0, hk, Bool.and_comm]
      simp only []
      rw [decide_eq_decide.2 (show 3 ≤ t % 8 ↔ 3 ≤ t by omega)]
    · rw [if_neg h0, hk, decide_eq_true (show 3 ≤ t by omega), Bool.true_and]
theorem mod_of_bit {x y i j : Nat} (h : x.testBit i = y.testBit j) : x / 2 ^ i % 2 = y / 2 ^ j % 2 := by
  rw [Nat.testBit_eq_decide_div_mod_eq, Nat.testBit_eq_decide_div_mod_eq] at h
  have := decide_eq_decide.1 h
  omega
theorem cb_kE (k : ByteArray) (t : Nat) (ht : t < 255) : cb k (t / 8) / 2 ^ (t % 8) % 2 = kE k / 2 ^ t % 2 := mod_of_bit (cb_bit k t ht)
end Go.Proofs.Xe
