/-
  The developers' gcm: a block taken into a hasher, a key's hasher.
-/
import Derived.Test.YtljhenjbjondkaaJoar
namespace Go.Proofs.Gd
open Go.RowKit Go.Proofs.Gcm
open Go.Proofs.Im (wpList_box_to wp_region_quiet_tail ready_load ready_call ready_store run_index_row)
open Go.Proofs.Sha (rowIs_of wpList_alloc_to)
/-- Nothing that was there has changed, but block g. -/
structure But (g : Nat) (w w' : World) : Prop where
  os : w'.os = w.os
  tape : w'.tape = w.tape
  output : w'.output = w.output
  size : w.heap.size ≤ w'.heap.size
  block : ∀ k, k < w.heap.size → k ≠ g → w'.heap[k]? = w.heap[k]?
theorem But.refl (g : Nat) (w : World) : But g w w := ⟨rfl, rfl, rfl, Nat.le_refl _, fun _ _ _ => rfl⟩
theorem But.trans {g : Nat} {a b c : World} (h : But g a b) (k : But g b c) : But g a c :=
  ⟨k.os.trans h.os, k.tape.trans h.tape, k.output.trans h.output, Nat.le_trans h.size k.size, fun i hi hg => (k.block i (Nat.lt_of_lt_of_le hi h.size) hg).trans (h.block i hi hg)⟩
theorem But.drew {g : Nat} {w w' : World} (h : But g w w') : But g w w'.drew := ⟨h.os, h.tape, h.output, h.size, h.block⟩
theorem But.setCell {g : Nat} {w w' : World} (h : But g w w') (i : Nat) (v : Value) : But g w (w'.setCell ⟨g, i, none⟩ v) :=
  h.trans ⟨rfl, rfl, rfl, by simp, fun k _ hk => Below.heap_setCell w' ⟨g, i, none⟩ v k hk⟩
theorem But.setEl {g : Nat} {w w' : World} (h : But g w w') (o : Nat) (x : Nat × Nat) : But g w (w'.setCells g o (elL x)) := by
  rw [two_cells]; exact (h.setCell _ _).setCell _ _
theorem But.of_below {g : Nat} {w w' : World} (h : Below w.heap.size w w') : But g w w' := ⟨h.os, h.tape, h.output, h.size, fun k hk _ => h.block k hk⟩
theorem But.on {g : Nat} {w u v : World} (h : But g w u) (hb : Below u.heap.size u v) : But g w v := h.trans (But.of_below hb)
theorem But.below {g B : Nat} {w0 w u : World} (h : But g w u) (hb : Below B w0 w) (hB : B ≤ g) (hs : B ≤ w.heap.size) : Below B w0 u :=
  hb.trans ⟨h.os, h.tape, h.output, h.size, fun k hk => h.block k (by omega) (by omega)⟩
/-- A hasher of key K with the sum S. -/
def Ha (w : World) (g : Nat) (K S : Nat × Nat) : Prop := Hs w g (fun n => tabR K n 4) S ∧ Ok K ∧ Ok S
theorem Ha.on {w u : World} {g : Nat} {K S : Nat × Nat} (h : Ha w g K S) (hb : Below w.heap.size w u) : Ha u g K S := ⟨h.1.on hb, h.2⟩
theorem Ha.drew {w : World} {g : Nat} {K S : Nat × Nat} (h : Ha w g K S) : Ha w.drew g K S := ⟨h.1.drew, h.2⟩
/-- The sum behind one more block. -/
def addS (K S p : Nat × Nat) : Nat × Nat := hor (pl S p).1 (pl S p).2 K 32
set_option maxHeartbeats 2000000 in
theorem add_any (p K S : Nat × Nat) (g : Nat) (w : World) (h : Ha w g K S) (hp : Ok p) :
    Calls Try.prog 36 #[.pointer (some ⟨g, 0, none⟩), .agg (elA p)] w fun e w' => e = .returned (.tuple #[]) ∧ But g w w' ∧ Ha w' g K (addS K S p) := by
  have HPo := Lib.hid hp
  have HS0 : Hid (Ha (w.alloc (.cells (elA p) 46)).drew g K S) := (h.on ((Below.refl _ _).alloc (Nat.le_refl _) _)).drew
  have HE0 : Hid (ElR (w.alloc (.cells (elA p) 46)).drew w.heap.size p) := (ElR.new w p).drew
  have HB0 : Hid (But g w (w.alloc (.cells (elA p) 46)).drew) := (But.of_below ((Below.refl _ _).alloc (Nat.le_refl _) _)).drew
  clear h hp
  go_enter Try.func36, Try.ntmps36
  go_upto_region 0 with (fail)
  apply wp_region_lit
  refine wpList_box_to rfl 46 _ rfl (elA p) rfl w.heap.size rfl ?_
  go_upto_region 1 with (fail)
  refine wp_region_any (by kernel_rfl) ?_
  change wpAny _ _ _ _ _ _ _ (w.alloc (.cells (elA p) 46)).drew
  generalize (w.alloc (.cells (elA p) 46)).drew = w1 at HS0 HE0 HB0 ⊢
  refine Lw.take_to (i := 0) (some 4) (.pointer (some ⟨g, 0, none⟩)) rfl rfl (by kernel_rfl) (by kernel_rfl) (by kernel_rfl) (fun _ _ _ h => h) (Or.inl ⟨by rfl, fun w => by go_simp⟩) ?_
  refine Lw.take_to (i := 1) (some 5) (.pointer (some ⟨g, 0, none⟩)) rfl rfl (by kernel_rfl) (by kernel_rfl) (by kernel_rfl) (fun _ _ _ h => h) (Or.inl ⟨by rfl, fun w => by go_simp⟩) ?_
  refine Lw.take_to (i := 2) (some 6) (.pointer (some ⟨g, 0, none⟩)) rfl rfl (by kernel_rfl) (by kernel_rfl) (by kernel_rfl) (fun _ _ _ h => h) (Or.inl ⟨by rfl, fun w => by go_simp⟩) ?_
  refine Lw.take_to (i := 3) (some 7) (.pointer (some ⟨g, 0, none⟩)) rfl rfl (by kernel_rfl) (by kernel_rfl) (by kernel_rfl) (fun _ _ _ h => h) (Or.inl ⟨by rfl, fun w => by go_simp⟩) ?_
  refine Lw.take_to (i := 4) (some 8) (.pointer (some ⟨g, 32, none⟩)) rfl rfl (by kernel_rfl) (by kernel_rfl) (by kernel_rfl) (fun _ _ _ h => h) (Or.inl ⟨by rfl, fun w => by go_simp⟩) ?_
  simp only [Act.put, List.setIfInBounds_toArray, List.set_cons_zero, List.set_cons_succ]
  refine wpAny_ready (rs := [5, 6]) (by kernel_rfl) (by simp) ?_
  refine ready_load rfl rfl 46 _ rfl g 32 (by kernel_rfl) (elL S) _ HS0.out.1.sum Try.underlying46 rfl (by kernel_rfl) ?_ (ready_load rfl rfl 46 _ rfl w.heap.size 0 (by kernel_rfl) (elL p) _ HE0.out.range Try.underlying46 rfl (by kernel_rfl) ?_ AllReady.nil)
  · simp only [Act.put, List.setIfInBounds_toArray]
    refine wpAny_ready (rs := [6]) (by kernel_rfl) (by simp) ?_
    refine ready_load rfl rfl 46 _ rfl w.heap.size 0 (by kernel_rfl) (elL p) _ HE0.out.range Try.underlying46 rfl (by kernel_rfl) ?_ AllReady.nil
    simp only [Act.put]
    refine wpAny_ready (rs := [7]) (by kernel_rfl) (by simp) ?_
    refine ready_call rfl rfl 37 _ _ rfl (fun _ _ => by go_simp) #[.agg (elA S), .agg (elA p)] (by kernel_rfl) ?_ AllReady.nil
    refine (plus_any S p _ HS0.out.2.2 HPo.out).mono ?_
    rintro e u ⟨rfl, hbu⟩
    refine ⟨_, rfl, ?_⟩
    simp only [Act.put]
    refine wpAny_ready (rs := [8]) (by kernel_rfl) (by simp) ?_
    refine ready_call rfl rfl 51 _ _ rfl (fun _ _ => by go_simp) #[.pointer (some ⟨g, 0, none⟩), .agg (elA (pl S p))] (by kernel_rfl) ?_ AllReady.nil
    refine (product_any (pl S p).1 (pl S p).2 K S g _ (HS0.out.on hbu).1 (pl_ok HS0.out.2.2 HPo.out).1 (pl_ok HS0.out.2.2 HPo.out).2 HS0.out.2.1).mono ?_
    rintro e v ⟨rfl, hbv⟩
    refine ⟨_, rfl, ?_⟩
    simp only [Act.put]
    have HSv := (HS0.out.on hbu).on hbv
    refine Lw.take_to (i := 9) (some 13) (.pointer (some ⟨g, 0, none⟩)) rfl rfl (by kernel_rfl) (by kernel_rfl) (by kernel_rfl) (fun _ _ _ h => h) (Or.inl ⟨by rfl, fun w => by go_simp⟩) ?_
    refine Lw.take_to (i := 10) (some 14) (.pointer (some ⟨g, 32, none⟩)) rfl rfl (by kernel_rfl) (by kernel_rfl) (by kernel_rfl) (fun _ _ _ h => h) (Or.inl ⟨by rfl, fun w => by go_simp⟩) ?_
    simp only [Act.put]
    refine wpAny_ready (rs := [11]) (by kernel_rfl) (by simp) ?_
    refine ready_store rfl rfl 46 _ _ rfl g 32 (elA (addS K S p)) (by kernel_rfl) (by kernel_rfl) (HSv.1.there 32 2 (by omega)) (by kernel_rfl) (elA_one _) ?_ AllReady.nil
    refine wpAny_done (by kernel_rfl) ?_ _
    simp only [Act.put]
    go_wp2_with (fail)
    go_end0
    exact ⟨rfl, (((HB0.out.on hbu).on hbv).setEl 32 (addS K S p)), HSv.1.setSum (addS K S p), HSv.2.1, hor_ok _ _ HSv.2.1 32⟩
  · simp only [Act.put, List.setIfInBounds_toArray]
    refine wpAny_ready (rs := [5]) (by kernel_rfl) (by simp) ?_
    refine ready_load rfl rfl 46 _ rfl g 32 (by kernel_rfl) (elL S) _ HS0.out.1.sum Try.underlying46 rfl (by kernel_rfl) ?_ AllReady.nil
    simp only [Act.put]
    refine wpAny_ready (rs := [7]) (by kernel_rfl) (by simp) ?_
    refine ready_call rfl rfl 37 _ _ rfl (fun _ _ => by go_simp) #[.agg (elA S), .agg (elA p)] (by kernel_rfl) ?_ AllReady.nil
    refine (plus_any S p _ HS0.out.2.2 HPo.out).mono ?_
    rintro e u ⟨rfl, hbu⟩
    refine ⟨_, rfl, ?_⟩
    simp only [Act.put]
    refine wpAny_ready (rs := [8]) (by kernel_rfl) (by simp) ?_
    refine ready_call rfl rfl 51 _ _ rfl (fun _ _ => by go_simp) #[.pointer (some ⟨g, 0, none⟩), .agg (elA (pl S p))] (by kernel_rfl) ?_ AllReady.nil
    refine (product_any (pl S p).1 (pl S p).2 K S g _ (HS0.out.on hbu).1 (pl_ok HS0.out.2.2 HPo.out).1 (pl_ok HS0.out.2.2 HPo.out).2 HS0.out.2.1).mono ?_
    rintro e v ⟨rfl, hbv⟩
    refine ⟨_, rfl, ?_⟩
    simp only [Act.put]
    have HSv := (HS0.out.on hbu).on hbv
    refine Lw.take_to (i := 9) (some 13) (.pointer (some ⟨g, 0, none⟩)) rfl rfl (by kernel_rfl) (by kernel_rfl) (by kernel_rfl) (fun _ _ _ h => h) (Or.inl ⟨by rfl, fun w => by go_simp⟩) ?_
    refine Lw.take_to (i := 10) (some 14) (.pointer (some ⟨g, 32, none⟩)) rfl rfl (by kernel_rfl) (by kernel_rfl) (by kernel_rfl) (fun _ _ _ h => h) (Or.inl ⟨by rfl, fun w => by go_simp⟩) ?_
    simp only [Act.put]
    refine wpAny_ready (rs := [11]) (by kernel_rfl) (by simp) ?_
    refine ready_store rfl rfl 46 _ _ rfl g 32 (elA (addS K S p)) (by kernel_rfl) (by kernel_rfl) (HSv.1.there 32 2 (by omega)) (by kernel_rfl) (elA_one _) ?_ AllReady.nil
    refine wpAny_done (by kernel_rfl) ?_ _
    simp only [Act.put]
    go_wp2_with (fail)
    go_end0
    exact ⟨rfl, (((HB0.out.on hbu).on hbv).setEl 32 (addS K S p)), HSv.1.setSum (addS K S p), HSv.2.1, hor_ok _ _ HSv.2.1 32⟩
/-- A key's hasher under way: its cells, the power. -/
def KM (w u : World) (T : Nat → Nat × Nat) (p : Nat × Nat) : Prop := Hs u (w.heap.size + 1) T (0, 0) ∧ ElR u (w.heap.size + 2) p ∧ Below w.heap.size w u
theorem KM.on {w u v : World} {T : Nat → Nat × Nat} {p : Nat × Nat} (h : KM w u T p) (hb : Below u.heap.size u v) : KM w v T p := ⟨h.1.on hb, h.2.1.on hb, h.2.2.trans (hb.mono h.2.2.size)⟩
theorem KM.drew {w u : World} {T : Nat → Nat × Nat} {p : Nat × Nat} (h : KM w u T p) : KM w u.drew T p := ⟨h.1.drew, h.2.1.drew, h.2.2.drew⟩
theorem KM.congr {w u : World} {T U : Nat → Nat × Nat} {p : Nat × Nat} (h : KM w u T p) (e : ∀ n, n < 16 → T n = U n) : KM w u U p := ⟨h.1.congr e, h.2⟩
theorem KM.set {w u : World} {T : Nat → Nat × Nat} {p : Nat × Nat} (h : KM w u T p) (n : Nat) (hn : n < 16) (x : Nat × Nat) : KM w (u.setCells (w.heap.size + 1) (n * 2) (elL x)) (fun i => if i = n then x else T i) p := by
  rw [Nat.mul_comm]
  exact ⟨h.1.setMul n hn x, h.2.1.other (by omega) x, by rw [two_cells]; exact (h.2.2.setCell (by show w.heap.size ≤ w.heap.size + 1; omega) _).setCell (by show w.heap.size ≤ w.heap.size + 1; omega) _⟩
theorem ElR.of_row {w : World} {g : Nat} {p : Nat × Nat} (h : w.heap[g]? = some (.cells (elA p) 46 (0, 0))) : ElR w g p := ⟨_, h, rfl, fun i hi => by
  match i, hi with
  | 0, _ => rfl
  | 1, _ => rfl⟩
theorem KM.power {w u : World} {T : Nat → Nat × Nat} {p : Nat × Nat} (h : KM w u T p) (x : Nat × Nat) : KM w (u.setRow (w.heap.size + 2) (elA x)) T x := by
  have hr := ElR.of_row (setRow_heap _ _ _ (elA x) _ _ h.2.1.heap)
  refine ⟨?_, hr, below_setRow h.2.2 (by omega) _⟩
  exact World.rowIs.of_block h.1 (setRow_other _ _ _ _ (by omega))
def Z34 : Array Value := Go.Proofs.Sha.wordCells .u64 (List.replicate 34 0)
theorem hs_new (w : World) : Hs (w.alloc (.cells Z34 63)) w.heap.size (fun _ => (0, 0)) (0, 0) := rowIs_of w Z34 63 34 _ (by decide +kernel) fun i hi => by
  have e : hC (fun _ => (0, 0)) (0, 0) i = .int .u64 0 := by unfold hC; split <;> (try split) <;> rfl
  rw [e]
  have := Go.Proofs.Sha.wordCells_get .u64 (List.replicate 34 0) i (by simpa using hi)
  rw [show Z34[i]? = _ from this, List.getD_eq_getElem?_getD, List.getElem?_replicate, if_pos hi]; rfl
theorem bit_of : ∀ r, r < 4 → ∀ n, n < 16 → ((n &&& 8 / 2 ^ r = 0 ∧ ¬ n / 2 ^ (3 - r) % 2 = 1) ∨ (¬ n &&& 8 / 2 ^ r = 0 ∧ n / 2 ^ (3 - r) % 2 = 1)) := by decide +kernel
theorem halve_of : ∀ r, r < 4 → 8 / 2 ^ r / 2 = 8 / 2 ^ (r + 1) ∧ 0 < 8 / 2 ^ r ∧ 8 / 2 ^ r ≤ 8 := by decide +kernel
theorem and_nat (n b : Nat) (hn : n < 16) (hb : b ≤ 8) : bits .and .i64 (n : Int) (b : Int) = ((n &&& b : Nat) : Int) := by
  rw [Lw.and_of _ b (by omega), show ((n : Int) % 18446744073709551616).toNat = n by omega]
set_option maxHeartbeats 4000000 in
theorem keyedHash_any (K : Nat × Nat) (w : World) (hK : Ok K) :
    Calls Try.prog 34 #[.agg (elA K)] w fun e w' => e = .returned (.pointer (some ⟨w.heap.size + 1, 0, none⟩)) ∧ Below w.heap.size w w' ∧ Ha w' (w.heap.size + 1) K (0, 0) := by
  have HK := Lib.hid hK
  clear hK
  go_enter Try.func34, Try.ntmps34
  go_upto_region 0 with (fail)
  apply wp_region_lit
  refine wpList_box_to rfl 46 _ rfl (elA K) rfl w.heap.size rfl ?_
  go_upto_region 1 with (fail)
  apply wp_region_lit
  refine Lw.wpList_val rfl (.agg Z34) (w.alloc (.cells (elA K) 46)) (by kernel_rfl) ?_
  refine wpList_box_to rfl 63 _ rfl Z34 rfl (w.heap.size + 1) (by simp) ?_
  have HS : Hid (((w.alloc (.cells (elA K) 46)).alloc (.cells Z34 63)).heap.size = w.heap.size + 2) := Lib.hid (by simp)
  have HN : Hid (((w.alloc (.cells (elA K) 46)).alloc (.cells Z34 63)).heap[w.heap.size]? = some (.cells (elA K) 46 (0, 0))) := ElR.heap (World.rowIs.alloc (ElR.new w K) _)
  have HH : Hid (Hs ((w.alloc (.cells (elA K) 46)).alloc (.cells Z34 63)) (w.heap.size + 1) (fun _ => (0, 0)) (0, 0)) := by
    have := hs_new (w.alloc (.cells (elA K) 46))
    rw [show (w.alloc (.cells (elA K) 46)).heap.size = w.heap.size + 1 by simp] at this
    exact this
  have HB : Hid (Below w.heap.size w ((w.alloc (.cells (elA K) 46)).alloc (.cells Z34 63))) := ((Below.refl _ _).alloc (Nat.le_refl _) _).alloc (by simp) _
  generalize (w.alloc (.cells (elA K) 46)).alloc (.cells Z34 63) = w1 at HS HN HH HB ⊢
  generalize Z34 = Z
  go_upto_region 2 with (fail)
  apply wp_region_lit
  refine wpList_load_row rfl 46 _ rfl w.heap.size rfl 46 (elA K) (0, 0) _ HN.out Try.underlying46 rfl (by kernel_rfl) ?_
  refine wpList_alloc_to rfl 46 rfl (elA (0, 0)) (w.heap.size + 2) HS.out allocEl ?_
  have HM0 : Hid (KM w (w1.alloc (.cells (elA (0, 0)) 46)) (fun _ => (0, 0)) (0, 0)) := by
    have := ElR.new w1 (0, 0)
    rw [HS.out] at this
    exact ⟨World.rowIs.alloc HH.out _, this, HB.out.alloc HB.out.size _⟩
  generalize w1.alloc (.cells (elA (0, 0)) 46) = w2 at HM0 ⊢
  refine wpList_store_row rfl 46 _ _ rfl (w.heap.size + 2) (elA K) rfl rfl 46 _ HM0.out.2.1.heap (by kernel_rfl) rfl (elA_one _) ?_
  have HM1 : Hid (KM w (w2.setRow (w.heap.size + 2) (elA K)) (fun n => tabR K n 0) (up K 0)) := HM0.out.power K
  simp only [Act.put, List.setIfInBounds_toArray, List.set_cons_zero, List.set_cons_succ]
  generalize w2.setRow (w.heap.size + 2) (elA K) = w3 at HM1 ⊢
  clear HS HN HH HB HM0
  go_wp2_with (fail)
  go_loopw [5] (fun i wx => ∃ r : Nat, Hid (r ≤ 4) ∧ i = .int .i64 ((8 / 2 ^ r : Nat) : Int) ∧ Hid (KM w wx (fun n => tabR K n r) (up K r))) (fun i _ => (intOf i).toNat)
  case atStart => exact ⟨0, Nat.zero_le 4, rfl, HM1⟩
  case round =>
    clear HM1
    obtain ⟨r, hr, rfl, HP⟩ := hrel
    by_cases hlt : r < 4
    · have HBit := Lib.hid (bit_of r hlt)
      obtain ⟨hv1, hv2, hv3⟩ := halve_of r hlt
      have HV := Lib.hid hv1
      have HR := Lib.hid hlt
      generalize 8 / 2 ^ r = bt at HBit HV hv1 hv2 hv3 ⊢
      have b0 : (0 : Int) < (bt : Int) := by omega
      have bl : (0 < bt) = True := eq_true hv2
      have b8 := Lib.hid hv3
      have b0' := Lib.hid hv2
      clear hlt hv1 hv2 hv3 hr
      go_wp2_with (fail)
      clear b0 bl
      go_loopw [14] (fun i wx => ∃ n : Nat, Hid (n ≤ 16) ∧ i = .int .i64 n ∧ Hid (KM w wx (fun t => if t < n then tabR K t (r + 1) else tabR K t r) (up K r))) (fun i _ => 16 - (intOf i).toNat)
      case atStart => exact ⟨0, Nat.zero_le 16, rfl, HP.out.congr fun t _ => (if_neg (Nat.not_lt_zero t)).symm⟩
      case round =>
        clear HP
        obtain ⟨n, hn, rfl, HP⟩ := hrel
        by_cases hlt : n < 16
        · have ni : (n : Int) < 16 := by omega
          have nl : ((n : Int) < 16) = True := eq_true ni
          have q := and_nat n bt hlt b8.out
          have HN := Lib.hid hlt
          rcases HBit.out n hlt with ⟨e0, e1⟩ | ⟨e0, e1⟩
          · rw [e0] at q
            have HCo : Hid (∀ t, t < 16 → (if t < n then tabR K t (r + 1) else tabR K t r) = (if t < n + 1 then tabR K t (r + 1) else tabR K t r)) := fun t _ => by
              by_cases h1 : t < n
              · rw [if_pos h1, if_pos (by omega)]
              · rw [if_neg h1]
                by_cases h2 : t = n
                · subst h2; rw [if_pos (by omega), tabR_no _ _ _ e1]
                · rw [if_neg (by omega)]
            have q0 : bits .and .i64 (n : Int) (bt : Int) = 0 := q
            clear hlt e0 e1 hn q
            go_wp2_with (fail)
            exact ⟨⟨n + 1, HN.out, by go_num, HP.out.congr HCo.out⟩, Lw.meas 16 n HN.out⟩
          · obtain ⟨c, hc⟩ : ∃ c, n &&& bt = c := ⟨_, rfl⟩
            rw [hc] at q e0
            have c1 : ((c : Int) == 0) = false := by simp; omega
            have c2 : ((c : Int) != 0) = true := by simp; omega
            have HP0 : Hid (KM w wr.drew (fun t => if t < n then tabR K t (r + 1) else tabR K t r) (up K r)) := HP.out.drew
            have HM0 : Hid (wr.drew.rangeAt (w.heap.size + 1) (n * 2) (elL (tabR K n r))) := by
              have := HP0.out.1.mul n hlt
              rw [Nat.mul_comm, if_neg (Nat.lt_irrefl n)] at this
              exact this
            have HTo : Hid (Ok (tabR K n r)) := tabR_ok HK.out n r
            have HQo : Hid (Ok (up K r)) := up_ok HK.out r
            have HCo : Hid (∀ t, t < 16 → (if t = n then pl (tabR K n r) (up K r) else (if t < n then tabR K t (r + 1) else tabR K t r)) = (if t < n + 1 then tabR K t (r + 1) else tabR K t r)) := fun t _ => by
              by_cases h2 : t = n
              · subst h2; rw [if_pos rfl, if_pos (by omega), tabR_yes _ _ _ e1]
              · rw [if_neg h2]
                by_cases h1 : t < n
                · rw [if_pos h1, if_pos (by omega)]
                · rw [if_neg h1, if_neg (by omega)]
            generalize tabR K n r = t at HM0 HTo HCo
            generalize up K r = q at HP0 HQo HCo ⊢
            clear hlt e0 e1 hn hc HP
            go_wp2_with (fail)
            refine wp_region_any (by kernel_rfl) ?_
            change wpAny _ _ _ _ _ _ _ wr.drew
            refine Lw.take_to (i := 0) (some 21) (.pointer (some ⟨w.heap.size + 1, 0, none⟩)) rfl rfl (by kernel_rfl) (by kernel_rfl) (by kernel_rfl) (fun _ _ _ h => h) (Or.inl ⟨by rfl, fun w => by go_simp⟩) ?_
            refine Lw.take_to (i := 1) (some 22) (.int .i64 (n : Nat)) rfl rfl (by kernel_rfl) (by kernel_rfl) (by kernel_rfl) (fun _ _ _ h => h) (Or.inl ⟨by rfl, fun w => by go_simp⟩) ?_
            refine Lw.take_to (i := 2) (some 23) (.pointer (some ⟨w.heap.size + 1, 0, none⟩)) rfl rfl (by kernel_rfl) (by kernel_rfl) (by kernel_rfl) (fun _ _ _ h => h) (Or.inl ⟨by rfl, fun w => by go_simp⟩) ?_
            refine Lw.take_to (i := 3) (some 24) (.int .i64 (n : Nat)) rfl rfl (by kernel_rfl) (by kernel_rfl) (by kernel_rfl) (fun _ _ _ h => h) (Or.inl ⟨by rfl, fun w => by go_simp⟩) ?_
            refine Lw.take_to (i := 4) (some 25) (.pointer (some ⟨w.heap.size + 1, 0, none⟩)) rfl rfl (by kernel_rfl) (by kernel_rfl) (by kernel_rfl) (fun _ _ _ h => h) (Or.inl ⟨by rfl, fun w => by go_simp⟩) ?_
            refine Lw.take_to (i := 5) (some 26) (.pointer (some ⟨w.heap.size + 1, 0, none⟩)) rfl rfl (by kernel_rfl) (by kernel_rfl) (by kernel_rfl) (fun _ _ _ h => h) (Or.inl ⟨by rfl, fun w => by go_simp⟩) ?_
            refine Lw.take_to (i := 6) (some 27) (.pointer (some ⟨w.heap.size + 1, n * 2, none⟩)) rfl rfl (by kernel_rfl) (by kernel_rfl) (by kernel_rfl) (fun _ _ _ h => h) (Or.inl ⟨by rfl, fun w => by go_simp⟩) ?_
            refine Lw.take_to (i := 10) (some 31) (.pointer (some ⟨w.heap.size + 1, 0, none⟩)) rfl rfl (by kernel_rfl) (by kernel_rfl) (by kernel_rfl) (fun _ _ _ h => h) (Or.inl ⟨by rfl, fun w => by go_simp⟩) ?_
            refine Lw.take_to (i := 11) (some 32) (.pointer (some ⟨w.heap.size + 1, 0, none⟩)) rfl rfl (by kernel_rfl) (by kernel_rfl) (by kernel_rfl) (fun _ _ _ h => h) (Or.inl ⟨by rfl, fun w => by go_simp⟩) ?_
            simp only [Act.put, List.setIfInBounds_toArray, List.set_cons_zero, List.set_cons_succ]
            refine wpAny_ready (rs := [7, 8]) (by kernel_rfl) (by simp) ?_
            refine ready_load rfl rfl 46 _ rfl (w.heap.size + 1) (n * 2) (by kernel_rfl) (elL t) _ HM0.out Try.underlying46 rfl (by kernel_rfl) ?_ (ready_load rfl rfl 46 _ rfl (w.heap.size + 2) 0 (by kernel_rfl) (elL q) _ HP0.out.2.1.range Try.underlying46 rfl (by kernel_rfl) ?_ AllReady.nil)
            · simp only [Act.put, List.setIfInBounds_toArray]
              refine wpAny_ready (rs := [8]) (by kernel_rfl) (by simp) ?_
              refine ready_load rfl rfl 46 _ rfl (w.heap.size + 2) 0 (by kernel_rfl) (elL q) _ HP0.out.2.1.range Try.underlying46 rfl (by kernel_rfl) ?_ AllReady.nil
              simp only [Act.put]
              refine wpAny_ready (rs := [9]) (by kernel_rfl) (by simp) ?_
              refine ready_call rfl rfl 37 _ _ rfl (fun _ _ => by go_simp) #[.agg (elA t), .agg (elA q)] (by kernel_rfl) ?_ AllReady.nil
              refine (plus_any t q _ HTo.out HQo.out).mono ?_
              rintro e v ⟨rfl, hbv⟩
              refine ⟨_, rfl, ?_⟩
              simp only [Act.put]
              refine Lw.take_to (i := 12) (some 33) (.pointer (some ⟨w.heap.size + 1, n * 2, none⟩)) rfl rfl (by kernel_rfl) (by kernel_rfl) (by kernel_rfl) (fun _ _ _ h => h) (Or.inl ⟨by rfl, fun w => by go_simp⟩) ?_
              simp only [Act.put]
              have HPv := HP0.out.on hbv
              refine wpAny_ready (rs := [13]) (by kernel_rfl) (by simp) ?_
              refine ready_store rfl rfl 46 _ _ rfl (w.heap.size + 1) (n * 2) (elA (pl t q)) (by kernel_rfl) (by kernel_rfl) (HPv.1.there (n * 2) 2 (by have := HN.out; omega)) (by kernel_rfl) (elA_one _) ?_ AllReady.nil
              refine wpAny_done (by kernel_rfl) ?_ _
              simp only [Act.put]
              have HPz := Lib.hid (HPv.set n HN.out (pl t q))
              clear HPv hbv
              go_wp2_with (fail)
              exact ⟨⟨n + 1, HN.out, by go_num, HPz.out.congr HCo.out⟩, Lw.meas 16 n HN.out⟩
            · simp only [Act.put, List.setIfInBounds_toArray]
              refine wpAny_ready (rs := [7]) (by kernel_rfl) (by simp) ?_
              refine ready_load rfl rfl 46 _ rfl (w.heap.size + 1) (n * 2) (by kernel_rfl) (elL t) _ HM0.out Try.underlying46 rfl (by kernel_rfl) ?_ AllReady.nil
              simp only [Act.put]
              refine wpAny_ready (rs := [9]) (by kernel_rfl) (by simp) ?_
              refine ready_call rfl rfl 37 _ _ rfl (fun _ _ => by go_simp) #[.agg (elA t), .agg (elA q)] (by kernel_rfl) ?_ AllReady.nil
              refine (plus_any t q _ HTo.out HQo.out).mono ?_
              rintro e v ⟨rfl, hbv⟩
              refine ⟨_, rfl, ?_⟩
              simp only [Act.put]
              refine Lw.take_to (i := 12) (some 33) (.pointer (some ⟨w.heap.size + 1, n * 2, none⟩)) rfl rfl (by kernel_rfl) (by kernel_rfl) (by kernel_rfl) (fun _ _ _ h => h) (Or.inl ⟨by rfl, fun w => by go_simp⟩) ?_
              simp only [Act.put]
              have HPv := HP0.out.on hbv
              refine wpAny_ready (rs := [13]) (by kernel_rfl) (by simp) ?_
              refine ready_store rfl rfl 46 _ _ rfl (w.heap.size + 1) (n * 2) (elA (pl t q)) (by kernel_rfl) (by kernel_rfl) (HPv.1.there (n * 2) 2 (by have := HN.out; omega)) (by kernel_rfl) (elA_one _) ?_ AllReady.nil
              refine wpAny_done (by kernel_rfl) ?_ _
              simp only [Act.put]
              have HPz := Lib.hid (HPv.set n HN.out (pl t q))
              clear HPv hbv
              go_wp2_with (fail)
              exact ⟨⟨n + 1, HN.out, by go_num, HPz.out.congr HCo.out⟩, Lw.meas 16 n HN.out⟩
        · have nl : ((n : Int) < 16) = False := eq_false (by omega)
          obtain rfl : n = 16 := by have := hn.out; omega
          have HP1 : Hid (KM w wr (fun t => tabR K t (r + 1)) (up K r)) := HP.out.congr fun t ht => if_pos ht
          have HN := Lib.hid HP1.out.2.1.heap
          rw [show ((16 : Nat) : Int) = 16 from rfl]
          clear hlt hn HP nl
          go_upto_region 12 with (fail)
          apply wp_region_lit
          refine wpList_load_row rfl 46 _ rfl (w.heap.size + 2) rfl 46 (elA (up K r)) (0, 0) _ HN.out Try.underlying46 rfl (by kernel_rfl) ?_
          simp only [Act.put, List.setIfInBounds_toArray, List.set_cons_zero, List.set_cons_succ]
          refine Lw.wpList_callTo (some 36) rfl rfl 50 _ _ rfl (fun _ _ => by go_simp) #[.agg (elA (up K r)), .int .u64 1] (by kernel_rfl) ?_
          refine (raised_1 (up K r) _ (up_ok HK.out r)).mono ?_
          rintro e v ⟨rfl, hbv⟩
          refine ⟨_, rfl, ?_⟩
          simp only [Act.put, List.setIfInBounds_toArray, List.set_cons_zero, List.set_cons_succ]
          have HPv := Lib.hid (HP1.out.on hbv)
          refine wpList_store_row rfl 46 _ _ rfl (w.heap.size + 2) (elA (xs (up K r))) rfl rfl 46 _ HPv.out.2.1.heap (by kernel_rfl) rfl (elA_one _) ?_
          have HPz : Hid (KM w (v.setRow (w.heap.size + 2) (elA (xs (up K r)))) (fun t => tabR K t (r + 1)) (up K (r + 1))) := HPv.out.power _
          generalize v.setRow (w.heap.size + 2) (elA (xs (up K r))) = z at HPz ⊢
          clear HPv HP1 hbv HN
          go_wp2_with (fail)
          exact ⟨⟨r + 1, HR.out, congrArg (Value.int .i64) (by have := HV.out; omega), HPz⟩, by have := b0'.out; simp [intOf]; omega⟩
    · obtain rfl : r = 4 := by have := hr.out; omega
      rw [show ((8 / 2 ^ 4 : Nat) : Int) = 0 from rfl]
      clear hlt hr
      go_wp2_with (fail)
      go_ret
      exact ⟨rfl, HP.out.2.2, HP.out.1, HK.out, ok_zero⟩
end Go.Proofs.Gd
