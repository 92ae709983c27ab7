/-
  The developers' gcm: a hasher in memory, a product by four bits at a time.
-/
import Derived.Test.YtljhenjbjondkaaJoaq
import Derived.Test.YtljhenjbjondkaaJoaa
namespace Go.Proofs.Gd
open Go.RowKit Go.Proofs.Gcm
open Go.Proofs.Im (wpList_box_to wp_region_quiet_tail ready_load ready_call ready_store run_index_row)
open Go.Proofs.Sha (rowIs_of wpList_alloc_to)
/-- An element's cells. -/
def elL (p : Nat × Nat) : List Value := [.int .u64 (p.1 : Nat), .int .u64 (p.2 : Nat)]
theorem elL_arr (p : Nat × Nat) : (elL p).toArray = elA p := rfl
theorem range_of {w : World} {g o : Nat} {p : Nat × Nat} (h0 : w.cell? ⟨g, o, none⟩ = some (.int .u64 (p.1 : Nat))) (h1 : w.cell? ⟨g, o + 1, none⟩ = some (.int .u64 (p.2 : Nat))) : w.rangeAt g o (elL p) := fun j v hv => by
  have hj : j < 2 := (List.getElem?_eq_some_iff.1 hv).1
  match j, hj with
  | 0, _ => rw [Nat.add_zero, h0]; exact hv
  | 1, _ => rw [h1]; exact hv
theorem two_cells (w : World) (g o : Nat) (p : Nat × Nat) : w.setCells g o (elL p) = (w.setCell ⟨g, o, none⟩ (.int .u64 (p.1 : Nat))).setCell ⟨g, o + 1, none⟩ (.int .u64 (p.2 : Nat)) := rfl
theorem ElR.range {w : World} {g : Nat} {p : Nat × Nat} (h : ElR w g p) : w.rangeAt g 0 (elL p) := range_of h.c0 h.c1
theorem ElR.there {w : World} {g : Nat} {p : Nat × Nat} (h : ElR w g p) : w.there g 0 2 := fun j hj => ⟨by rw [World.rowIs.cell h (i := 0 + j) (by omega)]; rfl, World.rowIs.frozen h _⟩
theorem ElR.lt {w : World} {g : Nat} {p : Nat × Nat} (h : ElR w g p) : g < w.heap.size := World.rowIs.lt h
theorem ElR.on {w u : World} {g : Nat} {p : Nat × Nat} (h : ElR w g p) (hb : Below w.heap.size w u) : ElR u g p := World.rowIs.of_block h (hb.block g h.lt)
theorem ElR.drew {w : World} {g : Nat} {p : Nat × Nat} (h : ElR w g p) : ElR w.drew g p := World.rowIs.drew h
theorem ElR.set {w : World} {g : Nat} {p : Nat × Nat} (h : ElR w g p) (x : Nat × Nat) : ElR (w.setCells g 0 (elL x)) g x := by
  rw [two_cells]
  refine World.rowIs.congr (World.rowIs.set (World.rowIs.set h 0 _) 1 _) fun i hi => ?_
  match i, hi with
  | 0, _ => rfl
  | 1, _ => rfl
theorem ElR.other {w : World} {g b o : Nat} {p : Nat × Nat} (h : ElR w g p) (hb : g ≠ b) (x : Nat × Nat) : ElR (w.setCells b o (elL x)) g p := by
  rw [two_cells]
  exact World.rowIs.setOther (World.rowIs.setOther h hb _) hb _
theorem ElR.heap {w : World} {g : Nat} {p : Nat × Nat} (h : ElR w g p) : w.heap[g]? = some (.cells (elA p) 46 (0, 0)) := by
  obtain ⟨cs, h1, h2, h3⟩ := h
  rw [h1]
  have e : cs = elA p := by
    apply Array.ext
    · exact h2
    · intro i hi hj
      have hi2 : i < 2 := by rw [h2] at hi; exact hi
      have h4 := h3 i hi2
      rw [Array.getElem?_eq_getElem hi] at h4
      injection h4 with h4
      rw [h4]
      match i, hi2 with
      | 0, _ => rfl
      | 1, _ => rfl
  rw [e]
/-- A hasher's cells: the key's sixteen multiples, the sum. -/
def hC (T : Nat → Nat × Nat) (S : Nat × Nat) (i : Nat) : Value := .int .u64 ((if i < 32 then (if i % 2 = 0 then (T (i / 2)).1 else (T (i / 2)).2) else if i = 32 then S.1 else S.2 : Nat) : Int)
def Hs (w : World) (g : Nat) (T : Nat → Nat × Nat) (S : Nat × Nat) : Prop := w.rowIs g 63 34 (hC T S)
theorem Hs.lt {w : World} {g : Nat} {T : Nat → Nat × Nat} {S : Nat × Nat} (h : Hs w g T S) : g < w.heap.size := World.rowIs.lt h
theorem Hs.mul {w : World} {g : Nat} {T : Nat → Nat × Nat} {S : Nat × Nat} (h : Hs w g T S) (n : Nat) (hn : n < 16) : w.rangeAt g (2 * n) (elL (T n)) := range_of
  (by rw [World.rowIs.cell h (i := 2 * n) (by omega)]; unfold hC; rw [if_pos (by omega), if_pos (by omega), show 2 * n / 2 = n by omega])
  (by rw [World.rowIs.cell h (i := 2 * n + 1) (by omega)]; unfold hC; rw [if_pos (by omega), if_neg (by omega), show (2 * n + 1) / 2 = n by omega])
theorem Hs.sum {w : World} {g : Nat} {T : Nat → Nat × Nat} {S : Nat × Nat} (h : Hs w g T S) : w.rangeAt g 32 (elL S) := range_of (World.rowIs.cell h (i := 32) (by decide)) (World.rowIs.cell h (i := 33) (by decide))
theorem Hs.there {w : World} {g : Nat} {T : Nat → Nat × Nat} {S : Nat × Nat} (h : Hs w g T S) (o n : Nat) (hn : o + n ≤ 34) : w.there g o n := fun j hj => ⟨by rw [World.rowIs.cell h (i := o + j) (by omega)]; rfl, World.rowIs.frozen h _⟩
theorem Hs.on {w u : World} {g : Nat} {T : Nat → Nat × Nat} {S : Nat × Nat} (h : Hs w g T S) (hb : Below w.heap.size w u) : Hs u g T S := World.rowIs.of_block h (hb.block g h.lt)
theorem Hs.below {w u : World} {g B : Nat} {T : Nat → Nat × Nat} {S : Nat × Nat} (h : Hs w g T S) (hb : Below B w u) (hB : g < B) : Hs u g T S := World.rowIs.of_block h (hb.block g hB)
theorem Hs.drew {w : World} {g : Nat} {T : Nat → Nat × Nat} {S : Nat × Nat} (h : Hs w g T S) : Hs w.drew g T S := World.rowIs.drew h
theorem Hs.congr {w : World} {g : Nat} {T U : Nat → Nat × Nat} {S : Nat × Nat} (h : Hs w g T S) (e : ∀ n, n < 16 → T n = U n) : Hs w g U S := World.rowIs.congr h fun i hi => by
  unfold hC
  split
  · rw [e (i / 2) (by omega)]
  · rfl
theorem Hs.setSum {w : World} {g : Nat} {T : Nat → Nat × Nat} {S : Nat × Nat} (h : Hs w g T S) (x : Nat × Nat) : Hs (w.setCells g 32 (elL x)) g T x := by
  rw [two_cells]
  refine World.rowIs.congr (World.rowIs.set (World.rowIs.set h 32 _) 33 _) fun i hi => ?_
  unfold hC
  by_cases h1 : i = 33
  · subst h1; rfl
  · rw [if_neg h1]
    by_cases h2 : i = 32
    · subst h2; rfl
    · have h3 : i < 32 := by omega
      rw [if_neg h2, if_pos h3, if_pos h3]
theorem Hs.setMul {w : World} {g : Nat} {T : Nat → Nat × Nat} {S : Nat × Nat} (h : Hs w g T S) (n : Nat) (hn : n < 16) (x : Nat × Nat) : Hs (w.setCells g (2 * n) (elL x)) g (fun i => if i = n then x else T i) S := by
  rw [two_cells]
  refine World.rowIs.congr (World.rowIs.set (World.rowIs.set h (2 * n) _) (2 * n + 1) _) fun i hi => ?_
  unfold hC
  dsimp only
  by_cases h1 : i = 2 * n + 1
  · rw [if_pos h1, if_pos (show i < 32 by omega), if_neg (show ¬ i % 2 = 0 by omega), if_pos (show i / 2 = n by omega)]
  · rw [if_neg h1]
    by_cases h2 : i = 2 * n
    · rw [if_pos h2, if_pos (show i < 32 by omega), if_pos (show i % 2 = 0 by omega), if_pos (show i / 2 = n by omega)]
    · rw [if_neg h2]
      by_cases h3 : i < 32
      · rw [if_pos h3, if_pos h3, if_neg (show ¬ i / 2 = n by omega)]
      · rw [if_neg h3, if_neg h3]
/-- A product under way: its result's place, its sum. -/
def PM (w u : World) (p : Nat × Nat) : Prop := ElR u (w.heap.size + 2) p ∧ ElR u (w.heap.size + 1) (0, 0) ∧ Below w.heap.size w u
theorem PM.on {w u v : World} {p : Nat × Nat} (h : PM w u p) (hb : Below u.heap.size u v) : PM w v p := ⟨h.1.on hb, h.2.1.on hb, h.2.2.trans (hb.mono h.2.2.size)⟩
theorem PM.drew {w u : World} {p : Nat × Nat} (h : PM w u p) : PM w u.drew p := ⟨h.1.drew, h.2.1.drew, h.2.2.drew⟩
theorem PM.set {w u : World} {p : Nat × Nat} (h : PM w u p) (x : Nat × Nat) : PM w (u.setCells (w.heap.size + 2) 0 (elL x)) x :=
  ⟨h.1.set x, h.2.1.other (by omega) x, by rw [two_cells]; exact (h.2.2.setCell (by show w.heap.size ≤ w.heap.size + 2; omega) _).setCell (by show w.heap.size ≤ w.heap.size + 2; omega) _⟩
theorem PM.new (w : World) (q : Nat × Nat) : PM w (((w.alloc (.cells (elA q) 46)).alloc (.cells (elA (0, 0)) 46)).alloc (.cells (elA (0, 0)) 46)) (0, 0) := by
  have h1 := ElR.new (w.alloc (.cells (elA q) 46)) (0, 0)
  have h2 := ElR.new ((w.alloc (.cells (elA q) 46)).alloc (.cells (elA (0, 0)) 46)) (0, 0)
  rw [show (w.alloc (.cells (elA q) 46)).heap.size = w.heap.size + 1 by simp] at h1
  rw [show ((w.alloc (.cells (elA q) 46)).alloc (.cells (elA (0, 0)) 46)).heap.size = w.heap.size + 2 by simp] at h2
  exact ⟨h2, World.rowIs.alloc h1 _, (((Below.refl _ _).alloc (Nat.le_refl _) _).alloc (by simp) _).alloc (by simp; omega) _⟩
theorem rangeAt_on {w u : World} {g o : Nat} {cs : List Value} (h : w.rangeAt g o cs) (hb : Below w.heap.size w u) (hg : g < w.heap.size) : u.rangeAt g o cs := fun j v hv => (hb.cell (p := ⟨g, o + j, none⟩) hg).trans (h j v hv)
theorem and15 (x : Nat) (hx : x < 18446744073709551616) : bits .and .u64 (x : Int) 15 = ((x % 16 : Nat) : Int) := by
  have h := u64_and_nat x 15 hx (by decide)
  rw [show x &&& 15 = x % 16 from Nat.and_two_pow_sub_one_eq_mod x 4] at h
  exact h
set_option maxHeartbeats 2000000 in
theorem product_any (a b : Nat) (K S : Nat × Nat) (g : Nat) (w : World) (h : Hs w g (fun n => tabR K n 4) S) (ha : a < 18446744073709551616) (hb : b < 18446744073709551616) (hK : Ok K) :
    Calls Try.prog 51 #[.pointer (some ⟨g, 0, none⟩), .agg (elA (a, b))] w fun e w' => e = .returned (.agg (elA (hor a b K 32))) ∧ Below w.heap.size w w' := by
  have HH := Lib.hid h
  have HA := Lib.hid ha
  have HBb := Lib.hid hb
  have HK := Lib.hid hK
  clear h ha hb hK
  go_enter Try.func51, Try.ntmps51
  go_upto_region 0 with (fail)
  apply wp_region_lit
  refine wpList_box_to rfl 46 _ rfl (elA (a, b)) rfl w.heap.size rfl ?_
  refine wpList_alloc_to rfl 46 rfl (elA (0, 0)) (w.heap.size + 1) (by simp) allocEl ?_
  go_upto_region 1 with (fail)
  apply wp_region_lit
  refine wpList_alloc_to rfl 46 rfl (elA (0, 0)) (w.heap.size + 2) (by simp) allocEl ?_
  have HP := Lib.hid (PM.new w (a, b))
  have HE : Hid (ElR (((w.alloc (.cells (elA (a, b)) 46)).alloc (.cells (elA (0, 0)) 46)).alloc (.cells (elA (0, 0)) 46)) w.heap.size (a, b)) := World.rowIs.alloc (World.rowIs.alloc (ElR.new w _) _) _
  generalize ((w.alloc (.cells (elA (a, b)) 46)).alloc (.cells (elA (0, 0)) 46)).alloc (.cells (elA (0, 0)) 46) = w1 at HP HE ⊢
  have c0 := HE.out.c0
  have c1 := HE.out.c1
  go_wp2_with (fail)
  clear c0 c1
  go_loopw [13] (fun i wx => ∃ r : Nat, Hid (r ≤ 2) ∧ i = .int .i64 r ∧ Hid (PM w wx (hor a b K (16 * r)))) (fun i _ => 2 - (intOf i).toNat)
  case atStart => exact ⟨0, Nat.zero_le 2, rfl, HP⟩
  case round =>
    clear HP HE
    obtain ⟨r, hr, rfl, HP⟩ := hrel
    by_cases hlt : r < 2
    · have rl : ((r : Int) < 2) = True := eq_true (by omega)
      have rl' : (r : Int) < 2 := by omega
      obtain ⟨X, hX, hXl, hXn⟩ : ∃ X, (#[Value.int .u64 (b : Nat), .int .u64 (a : Nat)])[r]? = some (.int .u64 (X : Nat)) ∧ X < 18446744073709551616 ∧ ∀ m, m < 16 → nb a b (16 * r + m) = X / 16 ^ m % 16 := by
        match r, hlt with
        | 0, _ => exact ⟨b, rfl, HBb.out, fun m hm => by unfold nb; rw [if_pos (by omega), show 16 * 0 + m = m by omega]⟩
        | 1, _ => exact ⟨a, rfl, HA.out, fun m hm => by unfold nb; rw [if_neg (by omega), show 16 * 1 + m - 16 = m by omega]⟩
      have hix := fun W => run_index_row (P := Try.prog) W 109 44 2 #[Value.int .u64 (b : Nat), .int .u64 (a : Nat)] .i64 r (.int .u64 (X : Nat)) Try.underlying109 (by kernel_rfl) _ Try.underlying44 rfl hlt hX
      have HXn := Lib.hid hXn
      have HXl := Lib.hid hXl
      have HRl := Lib.hid hlt
      clear hlt hX hXl hXn
      go_wp2_with (fail)
      clear hix rl rl'
      go_loopw [7, 16] (fun hv i wx => ∃ m : Nat, Hid (m ≤ 16) ∧ i = .int .i64 m ∧ hv = .int .u64 (X / 16 ^ m : Nat) ∧ Hid (PM w wx (hor a b K (16 * r + m)))) (fun _ i _ => 16 - (intOf i).toNat)
      case atStart => exact ⟨0, Nat.zero_le 16, rfl, by rw [Nat.pow_zero, Nat.div_one], HP⟩
      case round =>
        clear HP
        obtain ⟨m, hm, rfl, rfl, HP⟩ := hrel
        by_cases hlt : m < 16
        · have ml : ((m : Int) < 16) = True := eq_true (by omega)
          have hd4 : X / 16 ^ m / 16 = X / 16 ^ (m + 1) := by rw [Nat.div_div_eq_div_mul, Nat.pow_succ]
          have hdl : X / 16 ^ m < 18446744073709551616 := Nat.lt_of_le_of_lt (Nat.div_le_self _ _) HXl.out
          have HN := Lib.hid (HXn.out m hlt)
          have HM := Lib.hid hlt
          generalize X / 16 ^ m = x at hd4 hdl HN ⊢
          have q15 := and15 x hdl
          obtain ⟨k, hk⟩ : ∃ k, x % 16 = k := ⟨_, rfl⟩
          rw [hk] at q15
          have k16 : k < 16 := by omega
          have HKk := Lib.hid hk
          have HD4 := Lib.hid hd4
          have ki : (k : Int) < 16 := by omega
          have mi : (m : Int) < 16 := by omega
          have HP0 : Hid (PM w wr.drew (hor a b K (16 * r + m))) := HP.out.drew
          have HPok : Hid (Ok (hor a b K (16 * r + m))) := hor_ok a b HK.out _
          have HTok : Hid (Ok (tabR K k 4)) := tabR_ok HK.out k 4
          have HG0 : Hid (g < wr.drew.heap.size) := Nat.lt_of_lt_of_le HH.out.lt HP0.out.2.2.size
          have HM0 : Hid (wr.drew.rangeAt g (k * 2) (elL (tabR K k 4))) := by
            have := (HH.out.below HP0.out.2.2 HH.out.lt).mul k k16
            rw [Nat.mul_comm] at this
            exact this
          have HGo : Hid (pl (up (hor a b K (16 * r + m)) 4) (tabR K k 4) = hor a b K (16 * r + (m + 1))) := by
            show pl (up (hor a b K (16 * r + m)) 4) (tabR K k 4) = pl (up (hor a b K (16 * r + m)) 4) (tabR K (nb a b (16 * r + m)) 4)
            rw [HN.out, HKk.out]
          generalize hor a b K (16 * r + m) = p at HP0 HPok HGo HP
          generalize tabR K k 4 = t at HTok HM0 HGo
          clear hlt hdl hd4 hk k16
          go_wp2_with (fail)
          refine wp_region_any (by kernel_rfl) ?_
          change wpAny _ _ _ _ _ _ _ wr.drew
          refine Lw.take_to (i := 2) (some 20) (.pointer (some ⟨g, 0, none⟩)) rfl rfl (by kernel_rfl) (by kernel_rfl) (by kernel_rfl) (fun _ _ _ h => h) (Or.inl ⟨by rfl, fun w => by go_simp⟩) ?_
          refine Lw.take_to (i := 3) (some 21) (.int .u64 (x : Nat)) rfl rfl (by kernel_rfl) (by kernel_rfl) (by kernel_rfl) (fun _ _ _ h => h) (Or.inl ⟨by rfl, fun w => by go_simp⟩) ?_
          refine Lw.take_to (i := 4) (some 22) (.int .u64 (k : Nat)) rfl rfl (by kernel_rfl) (by kernel_rfl) (by kernel_rfl) (fun _ _ _ h => h) (Or.inl ⟨by rfl, fun w => by go_simp⟩) ?_
          refine Lw.take_to (i := 5) (some 23) (.pointer (some ⟨g, 0, none⟩)) rfl rfl (by kernel_rfl) (by kernel_rfl) (by kernel_rfl) (fun _ _ _ h => h) (Or.inl ⟨by rfl, fun w => by go_simp⟩) ?_
          refine Lw.take_to (i := 6) (some 24) (.pointer (some ⟨g, 0, none⟩)) rfl rfl (by kernel_rfl) (by kernel_rfl) (by kernel_rfl) (fun _ _ _ h => h) (Or.inl ⟨by rfl, fun w => by go_simp⟩) ?_
          refine Lw.take_to (i := 7) (some 25) (.pointer (some ⟨g, k * 2, none⟩)) rfl rfl (by kernel_rfl) (by kernel_rfl) (by kernel_rfl) (fun _ _ _ h => h) (Or.inl ⟨by rfl, fun w => by go_simp⟩) ?_
          simp only [Act.put, List.setIfInBounds_toArray, List.set_cons_zero, List.set_cons_succ]
          refine wpAny_ready (rs := [0, 8]) (by kernel_rfl) (by simp) ?_
          refine ready_load rfl rfl 46 _ rfl (w.heap.size + 2) 0 (by kernel_rfl) (elL p) _ (HP0.out).1.range Try.underlying46 rfl (by kernel_rfl) ?_ (ready_load rfl rfl 46 _ rfl g (k * 2) (by kernel_rfl) (elL t) _ (HM0.out) Try.underlying46 rfl (by kernel_rfl) ?_ AllReady.nil)
          · simp only [Act.put, List.setIfInBounds_toArray]
            refine wpAny_ready (rs := [1, 8]) (by kernel_rfl) (by simp) ?_
            refine ready_call rfl rfl 50 _ _ rfl (fun _ _ => by go_simp) #[.agg (elA p), .int .u64 4] (by kernel_rfl) ?_ (ready_load rfl rfl 46 _ rfl g (k * 2) (by kernel_rfl) (elL t) _ (HM0.out) Try.underlying46 rfl (by kernel_rfl) ?_ AllReady.nil)
            · refine (raised_4 p _ HPok.out).mono ?_
              rintro e u ⟨rfl, hbu⟩
              refine ⟨_, rfl, ?_⟩
              simp only [Act.put]
              refine wpAny_ready (rs := [8]) (by kernel_rfl) (by simp) ?_
              refine ready_load rfl rfl 46 _ rfl g (k * 2) (by kernel_rfl) (elL t) _ (rangeAt_on HM0.out hbu HG0.out) Try.underlying46 rfl (by kernel_rfl) ?_ AllReady.nil
              simp only [Act.put]
              refine wpAny_ready (rs := [9]) (by kernel_rfl) (by simp) ?_
              refine ready_call rfl rfl 37 _ _ rfl (fun _ _ => by go_simp) #[.agg (elA (up p 4)), .agg (elA t)] (by kernel_rfl) ?_ AllReady.nil
              refine (plus_any (up p 4) t _ (up_ok HPok.out 4) HTok.out).mono ?_
              rintro e v ⟨rfl, hbv⟩
              refine ⟨_, rfl, ?_⟩
              simp only [Act.put]
              have HPv := (HP0.out.on hbu).on hbv
              refine wpAny_ready (rs := [10]) (by kernel_rfl) (by simp) ?_
              refine ready_store rfl rfl 46 _ _ rfl (w.heap.size + 2) 0 (elA (pl (up p 4) t)) (by kernel_rfl) (by kernel_rfl) HPv.1.there (by kernel_rfl) (elA_one _) ?_ AllReady.nil
              refine wpAny_done (by kernel_rfl) ?_ _
              simp only [Act.put]
              have HPz : Hid (PM w (v.setCells (w.heap.size + 2) 0 (elL (pl (up p 4) t))) (hor a b K (16 * r + (m + 1)))) := HGo.out ▸ HPv.set _
              clear HPv hbv hbu
              go_wp2_with (fail)
              exact ⟨⟨m + 1, HM.out, by go_num, congrArg (Value.int .u64) (by have := HD4.out; omega), HPz⟩, Lw.meas 16 m HM.out⟩
            · simp only [Act.put]
              refine wpAny_ready (rs := [1]) (by kernel_rfl) (by simp) ?_
              refine ready_call rfl rfl 50 _ _ rfl (fun _ _ => by go_simp) #[.agg (elA p), .int .u64 4] (by kernel_rfl) ?_ AllReady.nil
              refine (raised_4 p _ HPok.out).mono ?_
              rintro e u ⟨rfl, hbu⟩
              refine ⟨_, rfl, ?_⟩
              simp only [Act.put]
              refine wpAny_ready (rs := [9]) (by kernel_rfl) (by simp) ?_
              refine ready_call rfl rfl 37 _ _ rfl (fun _ _ => by go_simp) #[.agg (elA (up p 4)), .agg (elA t)] (by kernel_rfl) ?_ AllReady.nil
              refine (plus_any (up p 4) t _ (up_ok HPok.out 4) HTok.out).mono ?_
              rintro e v ⟨rfl, hbv⟩
              refine ⟨_, rfl, ?_⟩
              simp only [Act.put]
              have HPv := (HP0.out.on hbu).on hbv
              refine wpAny_ready (rs := [10]) (by kernel_rfl) (by simp) ?_
              refine ready_store rfl rfl 46 _ _ rfl (w.heap.size + 2) 0 (elA (pl (up p 4) t)) (by kernel_rfl) (by kernel_rfl) HPv.1.there (by kernel_rfl) (elA_one _) ?_ AllReady.nil
              refine wpAny_done (by kernel_rfl) ?_ _
              simp only [Act.put]
              have HPz : Hid (PM w (v.setCells (w.heap.size + 2) 0 (elL (pl (up p 4) t))) (hor a b K (16 * r + (m + 1)))) := HGo.out ▸ HPv.set _
              clear HPv hbv hbu
              go_wp2_with (fail)
              exact ⟨⟨m + 1, HM.out, by go_num, congrArg (Value.int .u64) (by have := HD4.out; omega), HPz⟩, Lw.meas 16 m HM.out⟩
          · simp only [Act.put, List.setIfInBounds_toArray]
            refine wpAny_ready (rs := [0]) (by kernel_rfl) (by simp) ?_
            refine ready_load rfl rfl 46 _ rfl (w.heap.size + 2) 0 (by kernel_rfl) (elL p) _ (HP0.out).1.range Try.underlying46 rfl (by kernel_rfl) ?_ AllReady.nil
            simp only [Act.put]
            refine wpAny_ready (rs := [1]) (by kernel_rfl) (by simp) ?_
            refine ready_call rfl rfl 50 _ _ rfl (fun _ _ => by go_simp) #[.agg (elA p), .int .u64 4] (by kernel_rfl) ?_ AllReady.nil
            refine (raised_4 p _ HPok.out).mono ?_
            rintro e u ⟨rfl, hbu⟩
            refine ⟨_, rfl, ?_⟩
            simp only [Act.put]
            refine wpAny_ready (rs := [9]) (by kernel_rfl) (by simp) ?_
            refine ready_call rfl rfl 37 _ _ rfl (fun _ _ => by go_simp) #[.agg (elA (up p 4)), .agg (elA t)] (by kernel_rfl) ?_ AllReady.nil
            refine (plus_any (up p 4) t _ (up_ok HPok.out 4) HTok.out).mono ?_
            rintro e v ⟨rfl, hbv⟩
            refine ⟨_, rfl, ?_⟩
            simp only [Act.put]
            have HPv := (HP0.out.on hbu).on hbv
            refine wpAny_ready (rs := [10]) (by kernel_rfl) (by simp) ?_
            refine ready_store rfl rfl 46 _ _ rfl (w.heap.size + 2) 0 (elA (pl (up p 4) t)) (by kernel_rfl) (by kernel_rfl) HPv.1.there (by kernel_rfl) (elA_one _) ?_ AllReady.nil
            refine wpAny_done (by kernel_rfl) ?_ _
            simp only [Act.put]
            have HPz : Hid (PM w (v.setCells (w.heap.size + 2) 0 (elL (pl (up p 4) t))) (hor a b K (16 * r + (m + 1)))) := HGo.out ▸ HPv.set _
            clear HPv hbv hbu
            go_wp2_with (fail)
            exact ⟨⟨m + 1, HM.out, by go_num, congrArg (Value.int .u64) (by have := HD4.out; omega), HPz⟩, Lw.meas 16 m HM.out⟩
        · have ml : ((m : Int) < 16) = False := eq_false (by omega)
          obtain rfl : m = 16 := by have := hm.out; omega
          have rl' : (r : Int) < 2 := by have := HRl.out; omega
          clear hlt hm
          go_wp2_with (fail)
          exact ⟨⟨r + 1, HRl.out, by go_num, HP⟩, Lw.meas 2 r HRl.out⟩
    · have rl : ((r : Int) < 2) = False := eq_false (by omega)
      obtain rfl : r = 2 := by have := hr.out; omega
      rw [show ((2 : Nat) : Int) = 2 from rfl]
      clear hlt rl hr
      have HN := Lib.hid HP.out.1.heap
      have HO := Lib.hid HP.out.2.1.heap
      go_upto_region 11 with (fail)
      apply wp_region_lit
      refine wpList_load_row rfl 46 _ rfl (w.heap.size + 2) rfl 46 (elA (hor a b K (16 * 2))) (0, 0) _ HN.out Try.underlying46 rfl (by kernel_rfl) ?_
      refine wpList_store_row rfl 46 _ _ rfl (w.heap.size + 1) (elA (hor a b K (16 * 2))) rfl rfl 46 _ HO.out (by kernel_rfl) rfl (elA_one _) ?_
      simp only [Act.put, List.setIfInBounds_toArray, List.set_cons_zero, List.set_cons_succ]
      go_wp2_with (fail)
      refine bodyPost_ret (v := .agg (elA (hor a b K 32))) ?_ rfl ?_
      · exact results_cell_row (fn := Try.f51) Try.results51 _ _ (w.heap.size + 1) 46 _ (0, 0) _ rfl (setRow_heap _ _ _ _ _ _ HO.out) Try.underlying46 rfl (by kernel_rfl)
      · exact ⟨rfl, below_setRow HP.out.2.2 (by omega) _⟩
end Go.Proofs.Gd
