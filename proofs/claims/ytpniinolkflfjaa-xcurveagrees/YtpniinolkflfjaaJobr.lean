/-
  The document's own answer for layer 10: the ladder.
-/
import Derived.Test.YtpniinolkflfjaaJoaf
import Derived.Test.YtpniinolkflfjaaJoax
import Derived.Test.YtpniinolkflfjaaJoay
import Derived.Test.YtpniinolkflfjaaJobq
namespace Go.Proofs.Xu
open Go.RowKit
open Go.Proofs.Im (wpList_box_to words_heap words_one run_index_row)
open Go.Proofs.Sha (wordCells wordCells_get wordCells_size rowIs_of wpList_alloc_to wpList_build_to)
open Go.Proofs.Nt
open Go.Proofs.Nu
open Go.Proofs.En
open Go.Proofs.He (takeH load_row callH allocH storeH)
theorem alloc_0 (w : World) : (Instr.alloc 50 true (.tuple #[])).run Try.prog w = .ok (.pointer (some ⟨w.heap.size, 0, none⟩)) (w.alloc (.cells (nmA (lb 0)) 50)) := by kernel_rfl
theorem bit_word (x i : Nat) : lb x (i / 32) / 2 ^ (i % 32) % 2 = x / 2 ^ i % 2 := by
  unfold lb
  have e : x / 2 ^ i = x / 2 ^ (32 * (i / 32)) / 2 ^ (i % 32) := by rw [Nat.div_div_eq_div_mul, ← Nat.pow_add]; congr 2; omega
  rw [e]
  generalize x / 2 ^ (32 * (i / 32)) = y
  have hr : i % 32 < 32 := Nat.mod_lt _ (by decide)
  generalize i % 32 = r at hr
  have e2 : (4294967296 : Nat) = 2 ^ r * 2 ^ (32 - r) := by rw [← Nat.pow_add, show r + (32 - r) = 32 by omega]
  rw [e2, Nat.mod_mul_right_div_self]
  obtain ⟨k, hk⟩ : ∃ k, 32 - r = k + 1 := ⟨31 - r, by omega⟩
  rw [hk, Nat.pow_succ, Nat.mul_comm, Nat.mod_mul_right_mod]
theorem swapped {m b c : Nat} (_ : b < 2) (_ : c < 2) (h : ¬ b = c) {s : Ec.St m} {A2 C2 A3 C3 : Fin m} (e : s = if b = 0 then ⟨A2, C2, A3, C3⟩ else ⟨A3, C3, A2, C2⟩) : s = if c = 0 then ⟨A3, C3, A2, C2⟩ else ⟨A2, C2, A3, C3⟩ := by
  rw [e]
  by_cases h0 : b = 0
  · rw [if_pos h0, if_neg (by omega)]
  · rw [if_neg h0, if_pos (by omega)]
theorem step_done {m : Nat} [NeZero m] {c : Nat} {a x A2 C2 A3 C3 sa sb aa bb dd ea da eb cb st mt ss mm z3 x2 fa fb z2 : Fin m}
    (h : A2 + C2 = sa ∧ A2 - C2 = sb ∧ sa * sa = aa ∧ sb * sb = bb ∧ aa - bb = dd ∧ A3 - C3 = ea ∧ ea * sa = da ∧ A3 + C3 = eb ∧ eb * sb = cb ∧ da + cb = st ∧ da - cb = mt ∧ st * st = ss ∧ mt * mt = mm ∧ x * mm = z3 ∧ aa * bb = x2 ∧ a * dd = fa ∧ aa + fa = fb ∧ dd * fb = z2) :
    Ec.step a x c (if c = 0 then ⟨A2, C2, A3, C3⟩ else ⟨A3, C3, A2, C2⟩) = if c = 0 then ⟨x2, z2, ss, z3⟩ else ⟨ss, z3, x2, z2⟩ := by
  obtain ⟨rfl, rfl, rfl, rfl, rfl, rfl, rfl, rfl, rfl, rfl, rfl, rfl, rfl, rfl, rfl, rfl, rfl, rfl⟩ := h
  unfold Ec.step
  by_cases h0 : c = 0
  · rw [if_pos h0, if_pos h0, if_pos h0]; rfl
  · rw [if_neg h0, if_neg h0, if_neg h0]
    show Ec.St.mk (Ec.sX A3 C3 A2 C2) (Ec.sZ x A3 C3 A2 C2) (Ec.dX A2 C2) (Ec.dZ a A2 C2) = _
    rw [Ec.sX_turn, Ec.sZ_turn]; rfl
theorem set1 {α : Type} (l : List α) (i : Nat) (a : α) : l.toArray.setIfInBounds i a = (l.set i a).toArray := List.setIfInBounds_toArray l i a
theorem set2 {α : Type} (a b : α) (l : List α) : (a :: l).set 0 b = b :: l := rfl
theorem set3 {α : Type} (a b : α) (l : List α) (n : Nat) : (a :: l).set (n + 1) b = a :: l.set n b := rfl
set_option maxHeartbeats 40000000 in
set_option maxRecDepth 20000 in
theorem ladder_raw {m : Nat} [NeZero m] (J : Fin m → Nat) (a x : Fin m) (E ja jx j1 : Nat) (R : Nat) (w : World) (hR : (Ec.ladU a x E).val = R) (ka : J a = ja) (kx : J x = jx) (k1 : J 1 = j1) (k0 : J 0 = 0)
    (hI1 : ∀ u : World, Calls Try.prog 26 #[.int .i64 2, nmV 1] u fun e u' => e = .returned (nmV j1) ∧ Below u.heap.size u u')
    (hI2 : ∀ u : World, Calls Try.prog 26 #[.int .i64 2, nmV 121665] u fun e u' => e = .returned (nmV ja) ∧ Below u.heap.size u u')
    (hAd : ∀ (p q : Fin m) (u : World), Calls Try.prog 34 #[.int .i64 2, nmV (J p), nmV (J q)] u fun e u' => e = .returned (nmV (J (p + q))) ∧ Below u.heap.size u u')
    (hSu : ∀ (p q : Fin m) (u : World), Calls Try.prog 35 #[.int .i64 2, nmV (J p), nmV (J q)] u fun e u' => e = .returned (nmV (J (p - q))) ∧ Below u.heap.size u u')
    (hMu : ∀ (p q : Fin m) (u : World), Calls Try.prog 36 #[.int .i64 2, nmV (J p), nmV (J q)] u fun e u' => e = .returned (nmV (J (p * q))) ∧ Below u.heap.size u u')
    (hPw : ∀ (p : Fin m) (u : World), Calls Try.prog 38 #[.int .i64 2, nmV (J p)] u fun e u' => e = .returned (nmV (J (Ec.iv p))) ∧ Below u.heap.size u u')
    (hOu : ∀ (p : Fin m) (u : World), Calls Try.prog 37 #[.int .i64 2, nmV (J p)] u fun e u' => e = .returned (nmV p.val) ∧ Below u.heap.size u u') :
    Calls Try.prog 25 #[nmV E, nmV jx] w fun e u => e = .returned (nmV R) ∧ Below w.heap.size w u := by
  have HI1 := Lib.hid hI1
  have HI2 := Lib.hid hI2
  have HAd := Lib.hid hAd
  have HSu := Lib.hid hSu
  have HMu := Lib.hid hMu
  have HPw := Lib.hid hPw
  have HOu := Lib.hid hOu
  have hR := Lib.hid hR
  have HL0 : Hid (Ec.lad a x E 0 = if 0 = 0 then ⟨1, 0, x, 1⟩ else ⟨x, 1, 1, 0⟩) := (if_pos rfl).symm
  have ka := Lib.hid ka
  have kx := Lib.hid kx
  have k1 := Lib.hid k1
  have k0 := Lib.hid k0
  clear hI1 hI2 hAd hSu hMu hPw hOu
  go_enter Try.func25, Try.ntmps25
  have HM0 := Lib.hid (Env.start 50 w)
  go_upto_region 0 with (fail)
  apply wp_region_lit
  refine wpList_box_to rfl 50 _ rfl (nmA (lb E)) (by kernel_rfl) w.heap.size rfl ?_
  refine wpList_box_to rfl 50 _ rfl (nmA (lb jx)) (by kernel_rfl) (w.heap.size + 1) (by simp) ?_
  refine wpList_alloc_to rfl 50 rfl (nmA (lb 0)) (w.heap.size + 2) (by simp) alloc_0 ?_
  simp only [Act.put, set1, set2, set3]
  have HM : Hid (Env 50 w (((w.alloc (.cells (nmA (lb E)) 50)).alloc (.cells (nmA (lb jx)) 50)).alloc (.cells (nmA (lb 0)) 50)) (w.heap.size + 3) [(w.heap.size + 2, 0), (w.heap.size + 1, jx), (w.heap.size, E)]) := by
    have s1 : (w.alloc (.cells (nmA (lb E)) 50)).heap.size = w.heap.size + 1 := by simp
    have h1 := (HM0.out.alloc (.cells (nmA (lb E)) 50)).cons (Nat.le_refl _) (Cell.new 50 w E)
    have c1 := Cell.new 50 (w.alloc (.cells (nmA (lb E)) 50)) jx
    rw [s1] at c1
    generalize w.alloc (.cells (nmA (lb E)) 50) = u1 at *
    have s2 : (u1.alloc (.cells (nmA (lb jx)) 50)).heap.size = w.heap.size + 2 := by simp; omega
    have h2 := (h1.alloc (.cells (nmA (lb jx)) 50)).cons (Nat.le_refl _) c1
    have c2 := Cell.new 50 (u1.alloc (.cells (nmA (lb jx)) 50)) 0
    rw [s2] at c2
    exact (h2.alloc (.cells (nmA (lb 0)) 50)).cons (Nat.le_refl _) c2
  clear HM0
  generalize ((w.alloc (.cells (nmA (lb E)) 50)).alloc (.cells (nmA (lb jx)) 50)).alloc (.cells (nmA (lb 0)) 50) = w1 at HM ⊢
  generalize nmV E = Ev
  generalize nmV jx = Jv
  go_upto_region 2 with (fail)
  apply wp_region_lit
  refine Lw.wpList_val rfl (.int .i64 2) w1 (by go_simp) ?_
  refine wpList_build_to rfl 50 _ rfl (nmA (lb 1)) (by kernel_rfl) ?_
  simp only [Act.put, set1, set2, set3]
  refine Lw.wpList_callTo (some 26) rfl rfl 26 _ _ rfl (fun _ _ => by go_simp) #[.int .i64 2, nmV 1] (by kernel_rfl) ?_
  refine (HI1.out _).mono ?_
  rintro e u ⟨rfl, hb⟩
  refine ⟨_, rfl, ?_⟩
  have HM := Lib.hid (HM.out.on hb)
  clear hb
  refine wpList_alloc_to rfl 50 rfl (nmA (lb 0)) u.heap.size rfl alloc_0 ?_
  simp only [Act.put, set1, set2, set3]
  refine wpList_store_row rfl 50 _ _ rfl u.heap.size (nmA (lb j1)) (by kernel_rfl) (by kernel_rfl) 50 _ (heap_alloc_last _ _) (by kernel_rfl) (by rw [nmA_size, nmA_size]) (nmA_one _) ?_
  rw [World.setRow_alloc_new]
  simp only [Act.put]
  have HM := Lib.hid ((HM.out.alloc (.cells (nmA (lb j1)) 50)).cons (HM.out.size) (Cell.new 50 u j1))
  generalize u.alloc (.cells (nmA (lb j1)) 50) = w2 at HM ⊢
  generalize u.heap.size = g6 at HM ⊢
  generalize nmV j1 = J1v
  generalize nmA (lb 1) = Onea
  go_upto_region 3 with (fail)
  apply wp_region_lit
  refine Lw.wpList_val rfl (.int .i64 2) w2 (by go_simp) ?_
  refine wpList_build_to rfl 50 _ rfl (nmA (lb 121665)) (by kernel_rfl) ?_
  simp only [Act.put, set1, set2, set3]
  refine Lw.wpList_callTo (some 29) rfl rfl 26 _ _ rfl (fun _ _ => by go_simp) #[.int .i64 2, nmV 121665] (by kernel_rfl) ?_
  refine (HI2.out _).mono ?_
  rintro e u2 ⟨rfl, hb⟩
  refine ⟨_, rfl, ?_⟩
  have HM := Lib.hid (HM.out.on hb)
  clear hb
  refine wpList_alloc_to rfl 50 rfl (nmA (lb 0)) u2.heap.size rfl alloc_0 ?_
  simp only [Act.put, set1, set2, set3]
  refine wpList_store_row rfl 50 _ _ rfl u2.heap.size (nmA (lb ja)) (by kernel_rfl) (by kernel_rfl) 50 _ (heap_alloc_last _ _) (by kernel_rfl) (by rw [nmA_size, nmA_size]) (nmA_one _) ?_
  rw [World.setRow_alloc_new]
  simp only [Act.put]
  have HM := Lib.hid ((HM.out.alloc (.cells (nmA (lb ja)) 50)).cons (HM.out.size) (Cell.new 50 u2 ja))
  generalize u2.alloc (.cells (nmA (lb ja)) 50) = w3 at HM ⊢
  generalize u2.heap.size = g7 at HM ⊢
  generalize g7 + 1 = n at HM
  generalize nmV ja = Jav
  generalize nmA (lb 121665) = Ana
  go_upto_region 4 with (fail)
  have hSd := HM.out.drew
  clear HM
  refine wp_region_held (S := fun u => Env 50 w u n [(g7, ja), (g6, j1), ((w.heap.size + 2), 0), ((w.heap.size + 1), jx), (w.heap.size, E)]) (by kernel_rfl) ?_
  change wpAnyH _ _ _ _ _ _ _ _ w3.drew
  have HSx := Lib.hid hSd
  clear hSd
  generalize w3.drew = wd at HSx ⊢
  refine takeH (i := 0) (some 30) (.agg (nmA (lb j1))) rfl rfl rfl (by kernel_rfl) (by kernel_rfl) (by kernel_rfl) (fun _ _ _ h => h) (load_row 50 _ rfl g6 (by kernel_rfl) 50 (nmA (lb j1)) (0, 0) _ Try.underlying50 rfl (by kernel_rfl) (fun w h => h.get 1 rfl)) HSx.out ?_
  simp only [Act.put, set1, set2, set3]
  refine takeH (i := 1) (some 31) (.agg (nmA (lb 0))) rfl rfl rfl (by kernel_rfl) (by kernel_rfl) (by kernel_rfl) (fun _ _ _ h => h) (fun w _ => by kernel_rfl) HSx.out ?_
  simp only [Act.put, set1, set2, set3]
  refine takeH (i := 2) (some 32) (.agg (nmA (lb jx))) rfl rfl rfl (by kernel_rfl) (by kernel_rfl) (by kernel_rfl) (fun _ _ _ h => h) (load_row 50 _ rfl (w.heap.size + 1) (by kernel_rfl) 50 (nmA (lb jx)) (0, 0) _ Try.underlying50 rfl (by kernel_rfl) (fun w h => h.get 3 rfl)) HSx.out ?_
  simp only [Act.put, set1, set2, set3]
  refine takeH (i := 3) (some 33) (.agg (nmA (lb j1))) rfl rfl rfl (by kernel_rfl) (by kernel_rfl) (by kernel_rfl) (fun _ _ _ h => h) (load_row 50 _ rfl g6 (by kernel_rfl) 50 (nmA (lb j1)) (0, 0) _ Try.underlying50 rfl (by kernel_rfl) (fun w h => h.get 1 rfl)) HSx.out ?_
  simp only [Act.put, set1, set2, set3]
  refine meetH (fun (x : Nat × Nat × Nat × Nat) a => ((((a.put (some 8) (.pointer (some ⟨x.1, 0, none⟩))).put (some 9) (.pointer (some ⟨x.2.1, 0, none⟩))).put (some 10) (.pointer (some ⟨x.2.2.1, 0, none⟩))).put (some 11) (.pointer (some ⟨x.2.2.2, 0, none⟩)))) #[true, true, true, true, true, true, true, true, false, false, false, false] 4 (fun (x : Nat × Nat × Nat × Nat) W => (Env 50 w W n [(g7, ja), (g6, j1), ((w.heap.size + 2), 0), ((w.heap.size + 1), jx), (w.heap.size, E)]) ∧ (n ≤ x.1 ∧ Cell 50 W x.1 0) ∧ (n ≤ x.2.1 ∧ Cell 50 W x.2.1 0) ∧ (n ≤ x.2.2.1 ∧ Cell 50 W x.2.2.1 0) ∧ (n ≤ x.2.2.2 ∧ Cell 50 W x.2.2.2 0) ∧ (¬ x.1 = x.2.1) ∧ (¬ x.1 = x.2.2.1) ∧ (¬ x.1 = x.2.2.2) ∧ (¬ x.2.1 = x.2.2.1) ∧ (¬ x.2.1 = x.2.2.2) ∧ (¬ x.2.2.1 = x.2.2.2)) ?_ (fun key0_01230 => ?_)
  rotate_left
  · simp only [Act.put, set1, set2, set3] at key0_01230
    have key0_0123 := Lib.hid key0_01230
    clear key0_01230
    refine meetH (fun (x : Nat × Nat × Nat × Nat) a => (((a.put (some 8) (.pointer (some ⟨x.1, 0, none⟩))).put (some 9) (.pointer (some ⟨x.2.1, 0, none⟩))).put (some 10) (.pointer (some ⟨x.2.2.1, 0, none⟩)))) #[true, true, true, true, true, true, true, false, false, false, false, false] 5 (fun (x : Nat × Nat × Nat × Nat) W => (Env 50 w W n [(g7, ja), (g6, j1), ((w.heap.size + 2), 0), ((w.heap.size + 1), jx), (w.heap.size, E)]) ∧ (n ≤ x.1 ∧ Cell 50 W x.1 0) ∧ (n ≤ x.2.1 ∧ Cell 50 W x.2.1 0) ∧ (n ≤ x.2.2.1 ∧ Cell 50 W x.2.2.1 0) ∧ (¬ x.1 = x.2.1) ∧ (¬ x.1 = x.2.2.1) ∧ (¬ x.2.1 = x.2.2.1)) ?_ (fun key0_0120 => ?_)
    · rintro ⟨q8, q9, q10, q11⟩ W ⟨hS, ⟨hn0, hc0⟩, ⟨hn1, hc1⟩, ⟨hn2, hc2⟩, hd01, hd02, hd12⟩
      simp only [Act.put, set1, set2, set3]
      refine wpAnyH_ready (rs := [7]) (by kernel_rfl) (by simp) ?_
      refine allocH (some 11) rfl rfl rfl 50 rfl (nmA (lb 0)) alloc_0 (hS.alloc _) ?_ AllReadyH.nil
      · simp only [Act.put, set1, set2, set3]
        exact key0_0123.out (q8, q9, q10, W.heap.size) _ ⟨hS.alloc _, ⟨hn0, hc0.alloc _⟩, ⟨hn1, hc1.alloc _⟩, ⟨hn2, hc2.alloc _⟩, ⟨hS.size, Cell.new _ _ 0⟩, hd01, hd02, (fun (e : q8 = W.heap.size) => by have h : q8 < W.heap.size := hc0.lt; omega), hd12, (fun (e : q9 = W.heap.size) => by have h : q9 < W.heap.size := hc1.lt; omega), (fun (e : q10 = W.heap.size) => by have h : q10 < W.heap.size := hc2.lt; omega)⟩
    simp only [Act.put, set1, set2, set3] at key0_0120
    have key0_012 := Lib.hid key0_0120
    clear key0_0120
    refine meetH (fun (x : Nat × Nat × Nat × Nat) a => (((a.put (some 8) (.pointer (some ⟨x.1, 0, none⟩))).put (some 9) (.pointer (some ⟨x.2.1, 0, none⟩))).put (some 11) (.pointer (some ⟨x.2.2.2, 0, none⟩)))) #[true, true, true, true, true, true, false, true, false, false, false, false] 5 (fun (x : Nat × Nat × Nat × Nat) W => (Env 50 w W n [(g7, ja), (g6, j1), ((w.heap.size + 2), 0), ((w.heap.size + 1), jx), (w.heap.size, E)]) ∧ (n ≤ x.1 ∧ Cell 50 W x.1 0) ∧ (n ≤ x.2.1 ∧ Cell 50 W x.2.1 0) ∧ (n ≤ x.2.2.2 ∧ Cell 50 W x.2.2.2 0) ∧ (¬ x.1 = x.2.1) ∧ (¬ x.1 = x.2.2.2) ∧ (¬ x.2.1 = x.2.2.2)) ?_ (fun key0_0130 => ?_)
    · rintro ⟨q8, q9, q10, q11⟩ W ⟨hS, ⟨hn0, hc0⟩, ⟨hn1, hc1⟩, ⟨hn3, hc3⟩, hd01, hd03, hd13⟩
      simp only [Act.put, set1, set2, set3]
      refine wpAnyH_ready (rs := [6]) (by kernel_rfl) (by simp) ?_
      refine allocH (some 10) rfl rfl rfl 50 rfl (nmA (lb 0)) alloc_0 (hS.alloc _) ?_ AllReadyH.nil
      · simp only [Act.put, set1, set2, set3]
        exact key0_0123.out (q8, q9, W.heap.size, q11) _ ⟨hS.alloc _, ⟨hn0, hc0.alloc _⟩, ⟨hn1, hc1.alloc _⟩, ⟨hS.size, Cell.new _ _ 0⟩, ⟨hn3, hc3.alloc _⟩, hd01, (fun (e : q8 = W.heap.size) => by have h : q8 < W.heap.size := hc0.lt; omega), hd03, (fun (e : q9 = W.heap.size) => by have h : q9 < W.heap.size := hc1.lt; omega), hd13, (fun (e : W.heap.size = q11) => by have h : q11 < W.heap.size := hc3.lt; omega)⟩
    simp only [Act.put, set1, set2, set3] at key0_0130
    have key0_013 := Lib.hid key0_0130
    clear key0_0130
    refine meetH (fun (x : Nat × Nat × Nat × Nat) a => (((a.put (some 8) (.pointer (some ⟨x.1, 0, none⟩))).put (some 10) (.pointer (some ⟨x.2.2.1, 0, none⟩))).put (some 11) (.pointer (some ⟨x.2.2.2, 0, none⟩)))) #[true, true, true, true, true, false, true, true, false, false, false, false] 5 (fun (x : Nat × Nat × Nat × Nat) W => (Env 50 w W n [(g7, ja), (g6, j1), ((w.heap.size + 2), 0), ((w.heap.size + 1), jx), (w.heap.size, E)]) ∧ (n ≤ x.1 ∧ Cell 50 W x.1 0) ∧ (n ≤ x.2.2.1 ∧ Cell 50 W x.2.2.1 0) ∧ (n ≤ x.2.2.2 ∧ Cell 50 W x.2.2.2 0) ∧ (¬ x.1 = x.2.2.1) ∧ (¬ x.1 = x.2.2.2) ∧ (¬ x.2.2.1 = x.2.2.2)) ?_ (fun key0_0230 => ?_)
    · rintro ⟨q8, q9, q10, q11⟩ W ⟨hS, ⟨hn0, hc0⟩, ⟨hn2, hc2⟩, ⟨hn3, hc3⟩, hd02, hd03, hd23⟩
      simp only [Act.put, set1, set2, set3]
      refine wpAnyH_ready (rs := [5]) (by kernel_rfl) (by simp) ?_
      refine allocH (some 9) rfl rfl rfl 50 rfl (nmA (lb 0)) alloc_0 (hS.alloc _) ?_ AllReadyH.nil
      · simp only [Act.put, set1, set2, set3]
        exact key0_0123.out (q8, W.heap.size, q10, q11) _ ⟨hS.alloc _, ⟨hn0, hc0.alloc _⟩, ⟨hS.size, Cell.new _ _ 0⟩, ⟨hn2, hc2.alloc _⟩, ⟨hn3, hc3.alloc _⟩, (fun (e : q8 = W.heap.size) => by have h : q8 < W.heap.size := hc0.lt; omega), hd02, hd03, (fun (e : W.heap.size = q10) => by have h : q10 < W.heap.size := hc2.lt; omega), (fun (e : W.heap.size = q11) => by have h : q11 < W.heap.size := hc3.lt; omega), hd23⟩
    simp only [Act.put, set1, set2, set3] at key0_0230
    have key0_023 := Lib.hid key0_0230
    clear key0_0230
    refine meetH (fun (x : Nat × Nat × Nat × Nat) a => (((a.put (some 9) (.pointer (some ⟨x.2.1, 0, none⟩))).put (some 10) (.pointer (some ⟨x.2.2.1, 0, none⟩))).put (some 11) (.pointer (some ⟨x.2.2.2, 0, none⟩)))) #[true, true, true, true, false, true, true, true, false, false, false, false] 5 (fun (x : Nat × Nat × Nat × Nat) W => (Env 50 w W n [(g7, ja), (g6, j1), ((w.heap.size + 2), 0), ((w.heap.size + 1), jx), (w.heap.size, E)]) ∧ (n ≤ x.2.1 ∧ Cell 50 W x.2.1 0) ∧ (n ≤ x.2.2.1 ∧ Cell 50 W x.2.2.1 0) ∧ (n ≤ x.2.2.2 ∧ Cell 50 W x.2.2.2 0) ∧ (¬ x.2.1 = x.2.2.1) ∧ (¬ x.2.1 = x.2.2.2) ∧ (¬ x.2.2.1 = x.2.2.2)) ?_ (fun key0_1230 => ?_)
    · rintro ⟨q8, q9, q10, q11⟩ W ⟨hS, ⟨hn1, hc1⟩, ⟨hn2, hc2⟩, ⟨hn3, hc3⟩, hd12, hd13, hd23⟩
      simp only [Act.put, set1, set2, set3]
      refine wpAnyH_ready (rs := [4]) (by kernel_rfl) (by simp) ?_
      refine allocH (some 8) rfl rfl rfl 50 rfl (nmA (lb 0)) alloc_0 (hS.alloc _) ?_ AllReadyH.nil
      · simp only [Act.put, set1, set2, set3]
        exact key0_0123.out (W.heap.size, q9, q10, q11) _ ⟨hS.alloc _, ⟨hS.size, Cell.new _ _ 0⟩, ⟨hn1, hc1.alloc _⟩, ⟨hn2, hc2.alloc _⟩, ⟨hn3, hc3.alloc _⟩, (fun (e : W.heap.size = q9) => by have h : q9 < W.heap.size := hc1.lt; omega), (fun (e : W.heap.size = q10) => by have h : q10 < W.heap.size := hc2.lt; omega), (fun (e : W.heap.size = q11) => by have h : q11 < W.heap.size := hc3.lt; omega), hd12, hd13, hd23⟩
    simp only [Act.put, set1, set2, set3] at key0_1230
    have key0_123 := Lib.hid key0_1230
    clear key0_1230
    refine meetH (fun (x : Nat × Nat × Nat × Nat) a => ((a.put (some 8) (.pointer (some ⟨x.1, 0, none⟩))).put (some 9) (.pointer (some ⟨x.2.1, 0, none⟩)))) #[true, true, true, true, true, true, false, false, false, false, false, false] 6 (fun (x : Nat × Nat × Nat × Nat) W => (Env 50 w W n [(g7, ja), (g6, j1), ((w.heap.size + 2), 0), ((w.heap.size + 1), jx), (w.heap.size, E)]) ∧ (n ≤ x.1 ∧ Cell 50 W x.1 0) ∧ (n ≤ x.2.1 ∧ Cell 50 W x.2.1 0) ∧ (¬ x.1 = x.2.1)) ?_ (fun key0_010 => ?_)
    · rintro ⟨q8, q9, q10, q11⟩ W ⟨hS, ⟨hn0, hc0⟩, ⟨hn1, hc1⟩, hd01⟩
      simp only [Act.put, set1, set2, set3]
      refine wpAnyH_ready (rs := [6, 7]) (by kernel_rfl) (by simp) ?_
      refine allocH (some 10) rfl rfl rfl 50 rfl (nmA (lb 0)) alloc_0 (hS.alloc _) ?_ (allocH (some 11) rfl rfl rfl 50 rfl (nmA (lb 0)) alloc_0 (hS.alloc _) ?_ AllReadyH.nil)
      · simp only [Act.put, set1, set2, set3]
        exact key0_012.out (q8, q9, W.heap.size, 0) _ ⟨hS.alloc _, ⟨hn0, hc0.alloc _⟩, ⟨hn1, hc1.alloc _⟩, ⟨hS.size, Cell.new _ _ 0⟩, hd01, (fun (e : q8 = W.heap.size) => by have h : q8 < W.heap.size := hc0.lt; omega), (fun (e : q9 = W.heap.size) => by have h : q9 < W.heap.size := hc1.lt; omega)⟩
      · simp only [Act.put, set1, set2, set3]
        exact key0_013.out (q8, q9, 0, W.heap.size) _ ⟨hS.alloc _, ⟨hn0, hc0.alloc _⟩, ⟨hn1, hc1.alloc _⟩, ⟨hS.size, Cell.new _ _ 0⟩, hd01, (fun (e : q8 = W.heap.size) => by have h : q8 < W.heap.size := hc0.lt; omega), (fun (e : q9 = W.heap.size) => by have h : q9 < W.heap.size := hc1.lt; omega)⟩
    simp only [Act.put, set1, set2, set3] at key0_010
    have key0_01 := Lib.hid key0_010
    clear key0_010
    refine meetH (fun (x : Nat × Nat × Nat × Nat) a => ((a.put (some 8) (.pointer (some ⟨x.1, 0, none⟩))).put (some 10) (.pointer (some ⟨x.2.2.1, 0, none⟩)))) #[true, true, true, true, true, false, true, false, false, false, false, false] 6 (fun (x : Nat × Nat × Nat × Nat) W => (Env 50 w W n [(g7, ja), (g6, j1), ((w.heap.size + 2), 0), ((w.heap.size + 1), jx), (w.heap.size, E)]) ∧ (n ≤ x.1 ∧ Cell 50 W x.1 0) ∧ (n ≤ x.2.2.1 ∧ Cell 50 W x.2.2.1 0) ∧ (¬ x.1 = x.2.2.1)) ?_ (fun key0_020 => ?_)
    · rintro ⟨q8, q9, q10, q11⟩ W ⟨hS, ⟨hn0, hc0⟩, ⟨hn2, hc2⟩, hd02⟩
      simp only [Act.put, set1, set2, set3]
      refine wpAnyH_ready (rs := [5, 7]) (by kernel_rfl) (by simp) ?_
      refine allocH (some 9) rfl rfl rfl 50 rfl (nmA (lb 0)) alloc_0 (hS.alloc _) ?_ (allocH (some 11) rfl rfl rfl 50 rfl (nmA (lb 0)) alloc_0 (hS.alloc _) ?_ AllReadyH.nil)
      · simp only [Act.put, set1, set2, set3]
        exact key0_012.out (q8, W.heap.size, q10, 0) _ ⟨hS.alloc _, ⟨hn0, hc0.alloc _⟩, ⟨hS.size, Cell.new _ _ 0⟩, ⟨hn2, hc2.alloc _⟩, (fun (e : q8 = W.heap.size) => by have h : q8 < W.heap.size := hc0.lt; omega), hd02, (fun (e : W.heap.size = q10) => by have h : q10 < W.heap.size := hc2.lt; omega)⟩
      · simp only [Act.put, set1, set2, set3]
        exact key0_023.out (q8, 0, q10, W.heap.size) _ ⟨hS.alloc _, ⟨hn0, hc0.alloc _⟩, ⟨hn2, hc2.alloc _⟩, ⟨hS.size, Cell.new _ _ 0⟩, hd02, (fun (e : q8 = W.heap.size) => by have h : q8 < W.heap.size := hc0.lt; omega), (fun (e : q10 = W.heap.size) => by have h : q10 < W.heap.size := hc2.lt; omega)⟩
    simp only [Act.put, set1, set2, set3] at key0_020
    have key0_02 := Lib.hid key0_020
    clear key0_020
    refine meetH (fun (x : Nat × Nat × Nat × Nat) a => ((a.put (some 8) (.pointer (some ⟨x.1, 0, none⟩))).put (some 11) (.pointer (some ⟨x.2.2.2, 0, none⟩)))) #[true, true, true, true, true, false, false, true, false, false, false, false] 6 (fun (x : Nat × Nat × Nat × Nat) W => (Env 50 w W n [(g7, ja), (g6, j1), ((w.heap.size + 2), 0), ((w.heap.size + 1), jx), (w.heap.size, E)]) ∧ (n ≤ x.1 ∧ Cell 50 W x.1 0) ∧ (n ≤ x.2.2.2 ∧ Cell 50 W x.2.2.2 0) ∧ (¬ x.1 = x.2.2.2)) ?_ (fun key0_030 => ?_)
    · rintro ⟨q8, q9, q10, q11⟩ W ⟨hS, ⟨hn0, hc0⟩, ⟨hn3, hc3⟩, hd03⟩
      simp only [Act.put, set1, set2, set3]
      refine wpAnyH_ready (rs := [5, 6]) (by kernel_rfl) (by simp) ?_
      refine allocH (some 9) rfl rfl rfl 50 rfl (nmA (lb 0)) alloc_0 (hS.alloc _) ?_ (allocH (some 10) rfl rfl rfl 50 rfl (nmA (lb 0)) alloc_0 (hS.alloc _) ?_ AllReadyH.nil)
      · simp only [Act.put, set1, set2, set3]
        exact key0_013.out (q8, W.heap.size, 0, q11) _ ⟨hS.alloc _, ⟨hn0, hc0.alloc _⟩, ⟨hS.size, Cell.new _ _ 0⟩, ⟨hn3, hc3.alloc _⟩, (fun (e : q8 = W.heap.size) => by have h : q8 < W.heap.size := hc0.lt; omega), hd03, (fun (e : W.heap.size = q11) => by have h : q11 < W.heap.size := hc3.lt; omega)⟩
      · simp only [Act.put, set1, set2, set3]
        exact key0_023.out (q8, 0, W.heap.size, q11) _ ⟨hS.alloc _, ⟨hn0, hc0.alloc _⟩, ⟨hS.size, Cell.new _ _ 0⟩, ⟨hn3, hc3.alloc _⟩, (fun (e : q8 = W.heap.size) => by have h : q8 < W.heap.size := hc0.lt; omega), hd03, (fun (e : W.heap.size = q11) => by have h : q11 < W.heap.size := hc3.lt; omega)⟩
    simp only [Act.put, set1, set2, set3] at key0_030
    have key0_03 := Lib.hid key0_030
    clear key0_030
    refine meetH (fun (x : Nat × Nat × Nat × Nat) a => ((a.put (some 9) (.pointer (some ⟨x.2.1, 0, none⟩))).put (some 10) (.pointer (some ⟨x.2.2.1, 0, none⟩)))) #[true, true, true, true, false, true, true, false, false, false, false, false] 6 (fun (x : Nat × Nat × Nat × Nat) W => (Env 50 w W n [(g7, ja), (g6, j1), ((w.heap.size + 2), 0), ((w.heap.size + 1), jx), (w.heap.size, E)]) ∧ (n ≤ x.2.1 ∧ Cell 50 W x.2.1 0) ∧ (n ≤ x.2.2.1 ∧ Cell 50 W x.2.2.1 0) ∧ (¬ x.2.1 = x.2.2.1)) ?_ (fun key0_120 => ?_)
    · rintro ⟨q8, q9, q10, q11⟩ W ⟨hS, ⟨hn1, hc1⟩, ⟨hn2, hc2⟩, hd12⟩
      simp only [Act.put, set1, set2, set3]
      refine wpAnyH_ready (rs := [4, 7]) (by kernel_rfl) (by simp) ?_
      refine allocH (some 8) rfl rfl rfl 50 rfl (nmA (lb 0)) alloc_0 (hS.alloc _) ?_ (allocH (some 11) rfl rfl rfl 50 rfl (nmA (lb 0)) alloc_0 (hS.alloc _) ?_ AllReadyH.nil)
      · simp only [Act.put, set1, set2, set3]
        exact key0_012.out (W.heap.size, q9, q10, 0) _ ⟨hS.alloc _, ⟨hS.size, Cell.new _ _ 0⟩, ⟨hn1, hc1.alloc _⟩, ⟨hn2, hc2.alloc _⟩, (fun (e : W.heap.size = q9) => by have h : q9 < W.heap.size := hc1.lt; omega), (fun (e : W.heap.size = q10) => by have h : q10 < W.heap.size := hc2.lt; omega), hd12⟩
      · simp only [Act.put, set1, set2, set3]
        exact key0_123.out (0, q9, q10, W.heap.size) _ ⟨hS.alloc _, ⟨hn1, hc1.alloc _⟩, ⟨hn2, hc2.alloc _⟩, ⟨hS.size, Cell.new _ _ 0⟩, hd12, (fun (e : q9 = W.heap.size) => by have h : q9 < W.heap.size := hc1.lt; omega), (fun (e : q10 = W.heap.size) => by have h : q10 < W.heap.size := hc2.lt; omega)⟩
    simp only [Act.put, set1, set2, set3] at key0_120
    have key0_12 := Lib.hid key0_120
    clear key0_120
    refine meetH (fun (x : Nat × Nat × Nat × Nat) a => ((a.put (some 9) (.pointer (some ⟨x.2.1, 0, none⟩))).put (some 11) (.pointer (some ⟨x.2.2.2, 0, none⟩)))) #[true, true, true, true, false, true, false, true, false, false, false, false] 6 (fun (x : Nat × Nat × Nat × Nat) W => (Env 50 w W n [(g7, ja), (g6, j1), ((w.heap.size + 2), 0), ((w.heap.size + 1), jx), (w.heap.size, E)]) ∧ (n ≤ x.2.1 ∧ Cell 50 W x.2.1 0) ∧ (n ≤ x.2.2.2 ∧ Cell 50 W x.2.2.2 0) ∧ (¬ x.2.1 = x.2.2.2)) ?_ (fun key0_130 => ?_)
    · rintro ⟨q8, q9, q10, q11⟩ W ⟨hS, ⟨hn1, hc1⟩, ⟨hn3, hc3⟩, hd13⟩
      simp only [Act.put, set1, set2, set3]
      refine wpAnyH_ready (rs := [4, 6]) (by kernel_rfl) (by simp) ?_
      refine allocH (some 8) rfl rfl rfl 50 rfl (nmA (lb 0)) alloc_0 (hS.alloc _) ?_ (allocH (some 10) rfl rfl rfl 50 rfl (nmA (lb 0)) alloc_0 (hS.alloc _) ?_ AllReadyH.nil)
      · simp only [Act.put, set1, set2, set3]
        exact key0_013.out (W.heap.size, q9, 0, q11) _ ⟨hS.alloc _, ⟨hS.size, Cell.new _ _ 0⟩, ⟨hn1, hc1.alloc _⟩, ⟨hn3, hc3.alloc _⟩, (fun (e : W.heap.size = q9) => by have h : q9 < W.heap.size := hc1.lt; omega), (fun (e : W.heap.size = q11) => by have h : q11 < W.heap.size := hc3.lt; omega), hd13⟩
      · simp only [Act.put, set1, set2, set3]
        exact key0_123.out (0, q9, W.heap.size, q11) _ ⟨hS.alloc _, ⟨hn1, hc1.alloc _⟩, ⟨hS.size, Cell.new _ _ 0⟩, ⟨hn3, hc3.alloc _⟩, (fun (e : q9 = W.heap.size) => by have h : q9 < W.heap.size := hc1.lt; omega), hd13, (fun (e : W.heap.size = q11) => by have h : q11 < W.heap.size := hc3.lt; omega)⟩
    simp only [Act.put, set1, set2, set3] at key0_130
    have key0_13 := Lib.hid key0_130
    clear key0_130
    refine meetH (fun (x : Nat × Nat × Nat × Nat) a => ((a.put (some 10) (.pointer (some ⟨x.2.2.1, 0, none⟩))).put (some 11) (.pointer (some ⟨x.2.2.2, 0, none⟩)))) #[true, true, true, true, false, false, true, true, false, false, false, false] 6 (fun (x : Nat × Nat × Nat × Nat) W => (Env 50 w W n [(g7, ja), (g6, j1), ((w.heap.size + 2), 0), ((w.heap.size + 1), jx), (w.heap.size, E)]) ∧ (n ≤ x.2.2.1 ∧ Cell 50 W x.2.2.1 0) ∧ (n ≤ x.2.2.2 ∧ Cell 50 W x.2.2.2 0) ∧ (¬ x.2.2.1 = x.2.2.2)) ?_ (fun key0_230 => ?_)
    · rintro ⟨q8, q9, q10, q11⟩ W ⟨hS, ⟨hn2, hc2⟩, ⟨hn3, hc3⟩, hd23⟩
      simp only [Act.put, set1, set2, set3]
      refine wpAnyH_ready (rs := [4, 5]) (by kernel_rfl) (by simp) ?_
      refine allocH (some 8) rfl rfl rfl 50 rfl (nmA (lb 0)) alloc_0 (hS.alloc _) ?_ (allocH (some 9) rfl rfl rfl 50 rfl (nmA (lb 0)) alloc_0 (hS.alloc _) ?_ AllReadyH.nil)
      · simp only [Act.put, set1, set2, set3]
        exact key0_023.out (W.heap.size, 0, q10, q11) _ ⟨hS.alloc _, ⟨hS.size, Cell.new _ _ 0⟩, ⟨hn2, hc2.alloc _⟩, ⟨hn3, hc3.alloc _⟩, (fun (e : W.heap.size = q10) => by have h : q10 < W.heap.size := hc2.lt; omega), (fun (e : W.heap.size = q11) => by have h : q11 < W.heap.size := hc3.lt; omega), hd23⟩
      · simp only [Act.put, set1, set2, set3]
        exact key0_123.out (0, W.heap.size, q10, q11) _ ⟨hS.alloc _, ⟨hS.size, Cell.new _ _ 0⟩, ⟨hn2, hc2.alloc _⟩, ⟨hn3, hc3.alloc _⟩, (fun (e : W.heap.size = q10) => by have h : q10 < W.heap.size := hc2.lt; omega), (fun (e : W.heap.size = q11) => by have h : q11 < W.heap.size := hc3.lt; omega), hd23⟩
    simp only [Act.put, set1, set2, set3] at key0_230
    have key0_23 := Lib.hid key0_230
    clear key0_230
    refine meetH (fun (x : Nat × Nat × Nat × Nat) a => (a.put (some 8) (.pointer (some ⟨x.1, 0, none⟩)))) #[true, true, true, true, true, false, false, false, false, false, false, false] 7 (fun (x : Nat × Nat × Nat × Nat) W => (Env 50 w W n [(g7, ja), (g6, j1), ((w.heap.size + 2), 0), ((w.heap.size + 1), jx), (w.heap.size, E)]) ∧ (n ≤ x.1 ∧ Cell 50 W x.1 0)) ?_ (fun key0_00 => ?_)
    · rintro ⟨q8, q9, q10, q11⟩ W ⟨hS, ⟨hn0, hc0⟩⟩
      simp only [Act.put, set1, set2, set3]
      refine wpAnyH_ready (rs := [5, 6, 7]) (by kernel_rfl) (by simp) ?_
      refine allocH (some 9) rfl rfl rfl 50 rfl (nmA (lb 0)) alloc_0 (hS.alloc _) ?_ (allocH (some 10) rfl rfl rfl 50 rfl (nmA (lb 0)) alloc_0 (hS.alloc _) ?_ (allocH (some 11) rfl rfl rfl 50 rfl (nmA (lb 0)) alloc_0 (hS.alloc _) ?_ AllReadyH.nil))
      · simp only [Act.put, set1, set2, set3]
        exact key0_01.out (q8, W.heap.size, 0, 0) _ ⟨hS.alloc _, ⟨hn0, hc0.alloc _⟩, ⟨hS.size, Cell.new _ _ 0⟩, (fun (e : q8 = W.heap.size) => by have h : q8 < W.heap.size := hc0.lt; omega)⟩
      · simp only [Act.put, set1, set2, set3]
        exact key0_02.out (q8, 0, W.heap.size, 0) _ ⟨hS.alloc _, ⟨hn0, hc0.alloc _⟩, ⟨hS.size, Cell.new _ _ 0⟩, (fun (e : q8 = W.heap.size) => by have h : q8 < W.heap.size := hc0.lt; omega)⟩
      · simp only [Act.put, set1, set2, set3]
        exact key0_03.out (q8, 0, 0, W.heap.size) _ ⟨hS.alloc _, ⟨hn0, hc0.alloc _⟩, ⟨hS.size, Cell.new _ _ 0⟩, (fun (e : q8 = W.heap.size) => by have h : q8 < W.heap.size := hc0.lt; omega)⟩
    simp only [Act.put, set1, set2, set3] at key0_00
    have key0_0 := Lib.hid key0_00
    clear key0_00
    refine meetH (fun (x : Nat × Nat × Nat × Nat) a => (a.put (some 9) (.pointer (some ⟨x.2.1, 0, none⟩)))) #[true, true, true, true, false, true, false, false, false, false, false, false] 7 (fun (x : Nat × Nat × Nat × Nat) W => (Env 50 w W n [(g7, ja), (g6, j1), ((w.heap.size + 2), 0), ((w.heap.size + 1), jx), (w.heap.size, E)]) ∧ (n ≤ x.2.1 ∧ Cell 50 W x.2.1 0)) ?_ (fun key0_10 => ?_)
    · rintro ⟨q8, q9, q10, q11⟩ W ⟨hS, ⟨hn1, hc1⟩⟩
      simp only [Act.put, set1, set2, set3]
      refine wpAnyH_ready (rs := [4, 6, 7]) (by kernel_rfl) (by simp) ?_
      refine allocH (some 8) rfl rfl rfl 50 rfl (nmA (lb 0)) alloc_0 (hS.alloc _) ?_ (allocH (some 10) rfl rfl rfl 50 rfl (nmA (lb 0)) alloc_0 (hS.alloc _) ?_ (allocH (some 11) rfl rfl rfl 50 rfl (nmA (lb 0)) alloc_0 (hS.alloc _) ?_ AllReadyH.nil))
      · simp only [Act.put, set1, set2, set3]
        exact key0_01.out (W.heap.size, q9, 0, 0) _ ⟨hS.alloc _, ⟨hS.size, Cell.new _ _ 0⟩, ⟨hn1, hc1.alloc _⟩, (fun (e : W.heap.size = q9) => by have h : q9 < W.heap.size := hc1.lt; omega)⟩
      · simp only [Act.put, set1, set2, set3]
        exact key0_12.out (0, q9, W.heap.size, 0) _ ⟨hS.alloc _, ⟨hn1, hc1.alloc _⟩, ⟨hS.size, Cell.new _ _ 0⟩, (fun (e : q9 = W.heap.size) => by have h : q9 < W.heap.size := hc1.lt; omega)⟩
      · simp only [Act.put, set1, set2, set3]
        exact key0_13.out (0, q9, 0, W.heap.size) _ ⟨hS.alloc _, ⟨hn1, hc1.alloc _⟩, ⟨hS.size, Cell.new _ _ 0⟩, (fun (e : q9 = W.heap.size) => by have h : q9 < W.heap.size := hc1.lt; omega)⟩
    simp only [Act.put, set1, set2, set3] at key0_10
    have key0_1 := Lib.hid key0_10
    clear key0_10
    refine meetH (fun (x : Nat × Nat × Nat × Nat) a => (a.put (some 10) (.pointer (some ⟨x.2.2.1, 0, none⟩)))) #[true, true, true, true, false, false, true, false, false, false, false, false] 7 (fun (x : Nat × Nat × Nat × Nat) W => (Env 50 w W n [(g7, ja), (g6, j1), ((w.heap.size + 2), 0), ((w.heap.size + 1), jx), (w.heap.size, E)]) ∧ (n ≤ x.2.2.1 ∧ Cell 50 W x.2.2.1 0)) ?_ (fun key0_20 => ?_)
    · rintro ⟨q8, q9, q10, q11⟩ W ⟨hS, ⟨hn2, hc2⟩⟩
      simp only [Act.put, set1, set2, set3]
      refine wpAnyH_ready (rs := [4, 5, 7]) (by kernel_rfl) (by simp) ?_
      refine allocH (some 8) rfl rfl rfl 50 rfl (nmA (lb 0)) alloc_0 (hS.alloc _) ?_ (allocH (some 9) rfl rfl rfl 50 rfl (nmA (lb 0)) alloc_0 (hS.alloc _) ?_ (allocH (some 11) rfl rfl rfl 50 rfl (nmA (lb 0)) alloc_0 (hS.alloc _) ?_ AllReadyH.nil))
      · simp only [Act.put, set1, set2, set3]
        exact key0_02.out (W.heap.size, 0, q10, 0) _ ⟨hS.alloc _, ⟨hS.size, Cell.new _ _ 0⟩, ⟨hn2, hc2.alloc _⟩, (fun (e : W.heap.size = q10) => by have h : q10 < W.heap.size := hc2.lt; omega)⟩
      · simp only [Act.put, set1, set2, set3]
        exact key0_12.out (0, W.heap.size, q10, 0) _ ⟨hS.alloc _, ⟨hS.size, Cell.new _ _ 0⟩, ⟨hn2, hc2.alloc _⟩, (fun (e : W.heap.size = q10) => by have h : q10 < W.heap.size := hc2.lt; omega)⟩
      · simp only [Act.put, set1, set2, set3]
        exact key0_23.out (0, 0, q10, W.heap.size) _ ⟨hS.alloc _, ⟨hn2, hc2.alloc _⟩, ⟨hS.size, Cell.new _ _ 0⟩, (fun (e : q10 = W.heap.size) => by have h : q10 < W.heap.size := hc2.lt; omega)⟩
    simp only [Act.put, set1, set2, set3] at key0_20
    have key0_2 := Lib.hid key0_20
    clear key0_20
    refine meetH (fun (x : Nat × Nat × Nat × Nat) a => (a.put (some 11) (.pointer (some ⟨x.2.2.2, 0, none⟩)))) #[true, true, true, true, false, false, false, true, false, false, false, false] 7 (fun (x : Nat × Nat × Nat × Nat) W => (Env 50 w W n [(g7, ja), (g6, j1), ((w.heap.size + 2), 0), ((w.heap.size + 1), jx), (w.heap.size, E)]) ∧ (n ≤ x.2.2.2 ∧ Cell 50 W x.2.2.2 0)) ?_ (fun key0_30 => ?_)
    · rintro ⟨q8, q9, q10, q11⟩ W ⟨hS, ⟨hn3, hc3⟩⟩
      simp only [Act.put, set1, set2, set3]
      refine wpAnyH_ready (rs := [4, 5, 6]) (by kernel_rfl) (by simp) ?_
      refine allocH (some 8) rfl rfl rfl 50 rfl (nmA (lb 0)) alloc_0 (hS.alloc _) ?_ (allocH (some 9) rfl rfl rfl 50 rfl (nmA (lb 0)) alloc_0 (hS.alloc _) ?_ (allocH (some 10) rfl rfl rfl 50 rfl (nmA (lb 0)) alloc_0 (hS.alloc _) ?_ AllReadyH.nil))
      · simp only [Act.put, set1, set2, set3]
        exact key0_03.out (W.heap.size, 0, 0, q11) _ ⟨hS.alloc _, ⟨hS.size, Cell.new _ _ 0⟩, ⟨hn3, hc3.alloc _⟩, (fun (e : W.heap.size = q11) => by have h : q11 < W.heap.size := hc3.lt; omega)⟩
      · simp only [Act.put, set1, set2, set3]
        exact key0_13.out (0, W.heap.size, 0, q11) _ ⟨hS.alloc _, ⟨hS.size, Cell.new _ _ 0⟩, ⟨hn3, hc3.alloc _⟩, (fun (e : W.heap.size = q11) => by have h : q11 < W.heap.size := hc3.lt; omega)⟩
      · simp only [Act.put, set1, set2, set3]
        exact key0_23.out (0, 0, W.heap.size, q11) _ ⟨hS.alloc _, ⟨hS.size, Cell.new _ _ 0⟩, ⟨hn3, hc3.alloc _⟩, (fun (e : W.heap.size = q11) => by have h : q11 < W.heap.size := hc3.lt; omega)⟩
    simp only [Act.put, set1, set2, set3] at key0_30
    have key0_3 := Lib.hid key0_30
    clear key0_30
    refine wpAnyH_ready (rs := [4, 5, 6, 7]) (by kernel_rfl) (by simp) ?_
    refine allocH (some 8) rfl rfl rfl 50 rfl (nmA (lb 0)) alloc_0 (HSx.out.alloc _) ?_ (allocH (some 9) rfl rfl rfl 50 rfl (nmA (lb 0)) alloc_0 (HSx.out.alloc _) ?_ (allocH (some 10) rfl rfl rfl 50 rfl (nmA (lb 0)) alloc_0 (HSx.out.alloc _) ?_ (allocH (some 11) rfl rfl rfl 50 rfl (nmA (lb 0)) alloc_0 (HSx.out.alloc _) ?_ AllReadyH.nil)))
    · simp only [Act.put, set1, set2, set3]
      exact key0_0.out (wd.heap.size, 0, 0, 0) _ ⟨HSx.out.alloc _, ⟨HSx.out.size, Cell.new _ _ 0⟩⟩
    · simp only [Act.put, set1, set2, set3]
      exact key0_1.out (0, wd.heap.size, 0, 0) _ ⟨HSx.out.alloc _, ⟨HSx.out.size, Cell.new _ _ 0⟩⟩
    · simp only [Act.put, set1, set2, set3]
      exact key0_2.out (0, 0, wd.heap.size, 0) _ ⟨HSx.out.alloc _, ⟨HSx.out.size, Cell.new _ _ 0⟩⟩
    · simp only [Act.put, set1, set2, set3]
      exact key0_3.out (0, 0, 0, wd.heap.size) _ ⟨HSx.out.alloc _, ⟨HSx.out.size, Cell.new _ _ 0⟩⟩
  rintro ⟨q8, q9, q10, q11⟩ W ⟨hS, ⟨hn0, hc0⟩, ⟨hn1, hc1⟩, ⟨hn2, hc2⟩, ⟨hn3, hc3⟩, hd01, hd02, hd03, hd12, hd13, hd23⟩
  simp only [Act.put, set1, set2, set3]
  have HE := Lib.hid hS
  have C0 := Lib.hid hc0
  have C1 := Lib.hid hc1
  have C2 := Lib.hid hc2
  have C3 := Lib.hid hc3
  refine wpAnyH_ready (rs := [8]) (by kernel_rfl) (by simp) ?_
  refine storeH rfl rfl rfl 50 _ _ rfl q8 (nmA (lb j1)) (by kernel_rfl) (by kernel_rfl) 50 _ C0.out (by kernel_rfl) (by first | rw [nmA_size, nmA_size] | rfl) (nmA_one _) (HE.out.far _ hn0) ?_ AllReadyH.nil
  have HE := Lib.hid (HE.out.far (nmA (lb j1)) hn0)
  have C0 := Lib.hid (C0.out.put j1)
  have C1 := Lib.hid (C1.out.far (nmA (lb j1)) (fun e => hd01 e.symm))
  have C2 := Lib.hid (C2.out.far (nmA (lb j1)) (fun e => hd02 e.symm))
  have C3 := Lib.hid (C3.out.far (nmA (lb j1)) (fun e => hd03 e.symm))
  generalize W.setRow q8 (nmA (lb j1)) = ws0 at HE C0 C1 C2 C3 ⊢
  simp only [Act.put, set1, set2, set3]
  refine wpAnyH_ready (rs := [9]) (by kernel_rfl) (by simp) ?_
  refine storeH rfl rfl rfl 50 _ _ rfl q9 (nmA (lb 0)) (by kernel_rfl) (by kernel_rfl) 50 _ C1.out (by kernel_rfl) (by first | rw [nmA_size, nmA_size] | rfl) (nmA_one _) (HE.out.far _ hn1) ?_ AllReadyH.nil
  have HE := Lib.hid (HE.out.far (nmA (lb 0)) hn1)
  have C0 := Lib.hid (C0.out.far (nmA (lb 0)) hd01)
  have C1 := Lib.hid (C1.out.put 0)
  have C2 := Lib.hid (C2.out.far (nmA (lb 0)) (fun e => hd12 e.symm))
  have C3 := Lib.hid (C3.out.far (nmA (lb 0)) (fun e => hd13 e.symm))
  generalize ws0.setRow q9 (nmA (lb 0)) = ws1 at HE C0 C1 C2 C3 ⊢
  simp only [Act.put, set1, set2, set3]
  refine wpAnyH_ready (rs := [10]) (by kernel_rfl) (by simp) ?_
  refine storeH rfl rfl rfl 50 _ _ rfl q10 (nmA (lb jx)) (by kernel_rfl) (by kernel_rfl) 50 _ C2.out (by kernel_rfl) (by first | rw [nmA_size, nmA_size] | rfl) (nmA_one _) (HE.out.far _ hn2) ?_ AllReadyH.nil
  have HE := Lib.hid (HE.out.far (nmA (lb jx)) hn2)
  have C0 := Lib.hid (C0.out.far (nmA (lb jx)) hd02)
  have C1 := Lib.hid (C1.out.far (nmA (lb jx)) hd12)
  have C2 := Lib.hid (C2.out.put jx)
  have C3 := Lib.hid (C3.out.far (nmA (lb jx)) (fun e => hd23 e.symm))
  generalize ws1.setRow q10 (nmA (lb jx)) = ws2 at HE C0 C1 C2 C3 ⊢
  simp only [Act.put, set1, set2, set3]
  refine wpAnyH_ready (rs := [11]) (by kernel_rfl) (by simp) ?_
  refine storeH rfl rfl rfl 50 _ _ rfl q11 (nmA (lb j1)) (by kernel_rfl) (by kernel_rfl) 50 _ C3.out (by kernel_rfl) (by first | rw [nmA_size, nmA_size] | rfl) (nmA_one _) (HE.out.far _ hn3) ?_ AllReadyH.nil
  have HE := Lib.hid (HE.out.far (nmA (lb j1)) hn3)
  have C0 := Lib.hid (C0.out.far (nmA (lb j1)) hd03)
  have C1 := Lib.hid (C1.out.far (nmA (lb j1)) hd13)
  have C2 := Lib.hid (C2.out.far (nmA (lb j1)) hd23)
  have C3 := Lib.hid (C3.out.put j1)
  generalize ws2.setRow q11 (nmA (lb j1)) = ws3 at HE C0 C1 C2 C3 ⊢
  simp only [Act.put, set1, set2, set3]
  refine wpAnyH_done (by kernel_rfl) ?_ _
  have HM := Lib.hid ((((((((HE.out).add (Nat.le_trans HE.out.base hn3) (HE.out.old hn3) C3.out)).add (Nat.le_trans HE.out.base hn2) (new_cons (HE.out.old hn2) hd23) C2.out)).add (Nat.le_trans HE.out.base hn1) (new_cons (new_cons (HE.out.old hn1) hd13) hd12) C1.out)).add (Nat.le_trans HE.out.base hn0) (new_cons (new_cons (new_cons (HE.out.old hn0) hd03) hd02) hd01) C0.out)
  clear HE C0 hn0 hc0 C1 hn1 hc1 C2 hn2 hc2 C3 hn3 hc3 hd01 hd02 hd03 hd12 hd13 hd23
  generalize ws3.heap.size = n0 at HM
  generalize ws3 = wz at HM ⊢
  go_wp2_with (fail)
  go_loopw [12, 13] (fun bv tv wx => ∃ (j b nn : Nat) (A2 C2 A3 C3 : Fin m), Hid (j ≤ 255) ∧ Hid (b < 2) ∧ tv = .int .i64 (254 - (j : Int)) ∧ bv = .int .u32 (b : Nat) ∧ Hid (Ec.lad a x E j = if b = 0 then ⟨A2, C2, A3, C3⟩ else ⟨A3, C3, A2, C2⟩) ∧ Hid (Env 50 w wx nn [(q8, J A2), (q9, J C2), (q10, J A3), (q11, J C3), (g7, ja), (g6, j1), (w.heap.size + 2, 0), (w.heap.size + 1, jx), (w.heap.size, E)])) (fun _ tv _ => (intOf tv + 1).toNat)
  case atStart => exact ⟨0, 0, n0, 1, 0, x, 1, Nat.zero_le _, (by decide : 0 < 2), rfl, rfl, HL0, by rw [kx.out, k1.out, k0.out]; exact HM⟩
  case round =>
    clear HM HL0
    obtain ⟨j, b, n0, A2, C2, A3, C3, hj, hb2, rfl, rfl, HSs, HM⟩ := hrel
    by_cases hlt : j < 255
    · obtain ⟨t, ht⟩ : ∃ t, 254 - j = t := ⟨_, rfl⟩
      rw [show (254 : Int) - (j : Int) = (t : Int) by omega]
      have HJ : Hid (j + 1 ≤ 255) := hlt
      have HTn : Hid (Value.int IntKind.i64 ((t : Int) - 1) = .int .i64 (254 - ((j + 1 : Nat) : Int))) := congrArg (Value.int IntKind.i64) (by omega)
      have HMs : Hid ((intOf (Value.int IntKind.i64 ((t : Int) - 1)) + 1).toNat < (intOf (Value.int IntKind.i64 (t : Int)) + 1).toNat) := by show ((t : Int) - 1 + 1).toNat < ((t : Int) + 1).toNat; omega
      have t0 : ((0 : Int) ≤ (t : Int)) = True := eq_true (by omega)
      have t0' : (0 : Int) ≤ (t : Int) := by omega
      obtain ⟨q, hq⟩ : ∃ q, t / 32 = q := ⟨_, rfl⟩
      obtain ⟨r, hr⟩ : ∃ r, t % 32 = r := ⟨_, rfl⟩
      obtain ⟨c, hc⟩ : ∃ c, E / 2 ^ t % 2 = c := ⟨_, rfl⟩
      have HCb : Hid (c < 2) := by show c < 2; omega
      have hbw := bit_word E t
      rw [hq, hr, hc] at hbw
      have t1 : IntKind.i64.wrap ((t : Int) / 32) = (q : Int) := by rw [IntWalk.i64_in _ (by omega)]; omega
      have t2 : (t : Int) / 32 = (q : Int) := by omega
      have t3 : (t : Int) % 32 = (r : Int) := by omega
      have t4 : (t : Int).tmod 32 = (r : Int) := by rw [Int.tmod_eq_emod_of_nonneg (by omega)]; exact t3
      have q8' : q < 8 := by omega
      have qb : (q : Int) < 8 := by omega
      have rb : (r : Int) < 32 := by omega
      have t254 : (t : Int) ≤ 254 := by omega
      have xc : wr.cell? ⟨w.heap.size, q, none⟩ = some (.int .u32 (lb E q : Nat)) := by rw [cell_of_row _ _ q _ _ _ (HM.out.get 8 (g := w.heap.size) (x := E) rfl)]; exact nmA_get _ q q8'
      have l1 := lb_lt E q
      generalize lb E q = L at xc l1 hbw
      have e1 : bits .and .u32 ((L : Int) / 2 ^ r) 1 = (c : Int) := by
        have e0 : (L : Int) / 2 ^ r = ((L / 2 ^ r : Nat) : Int) := by rw [Int.natCast_ediv, Int.natCast_pow]; rfl
        have h0 : L / 2 ^ r < 4294967296 := Nat.lt_of_le_of_lt (Nat.div_le_self _ _) l1
        have h1 := u32_and_nat (L / 2 ^ r) 1 h0 (by decide)
        rw [Nat.and_one_is_mod, hbw] at h1
        rw [e0]; exact h1
      have HSn : Hid (Ec.lad a x E (j + 1) = Ec.step a x c (Ec.lad a x E j)) := by
        show Ec.step a x (E / 2 ^ (254 - j) % 2) _ = _
        rw [ht, hc]
      obtain ⟨jA2, kA2⟩ : ∃ j, J A2 = j := ⟨_, rfl⟩
      obtain ⟨jC2, kC2⟩ : ∃ j, J C2 = j := ⟨_, rfl⟩
      obtain ⟨jA3, kA3⟩ : ∃ j, J A3 = j := ⟨_, rfl⟩
      obtain ⟨jC3, kC3⟩ : ∃ j, J C3 = j := ⟨_, rfl⟩
      rw [kA2, kC2, kA3, kC3] at HM
      have kx := kx.out
      have ka := ka.out
      clear hlt ht hq hr hbw hc
      go_upto_region 10 with (fail)
      clear xc e1 t1 t2 t3 t4 q8' qb rb t0 t0' l1
      by_cases hbc : b = c
      · have hSs := HSs.out
        rw [hbc] at hSs
        have HSs := Lib.hid hSs
        obtain rfl : c = b := hbc.symm
        clear hSs hbc
        obtain ⟨sa, hsa⟩ : ∃ v : Fin m, A2 + C2 = v := ⟨_, rfl⟩
        obtain ⟨jsa, ksa⟩ : ∃ j, J sa = j := ⟨_, rfl⟩
        have Ksa : Hid (∀ u : World, Calls Try.prog 34 #[.int .i64 2, nmV jA2, nmV jC2] u fun e u' => e = .returned (nmV jsa) ∧ Below u.heap.size u u') := fun u => by
          have := HAd.out A2 C2 u
          rw [hsa, ksa, kA2, kC2] at this
          exact this
        obtain ⟨sb, hsb⟩ : ∃ v : Fin m, A2 - C2 = v := ⟨_, rfl⟩
        obtain ⟨jsb, ksb⟩ : ∃ j, J sb = j := ⟨_, rfl⟩
        have Ksb : Hid (∀ u : World, Calls Try.prog 35 #[.int .i64 2, nmV jA2, nmV jC2] u fun e u' => e = .returned (nmV jsb) ∧ Below u.heap.size u u') := fun u => by
          have := HSu.out A2 C2 u
          rw [hsb, ksb, kA2, kC2] at this
          exact this
        obtain ⟨aa, haa⟩ : ∃ v : Fin m, sa * sa = v := ⟨_, rfl⟩
        obtain ⟨jaa, kaa⟩ : ∃ j, J aa = j := ⟨_, rfl⟩
        have Kaa : Hid (∀ u : World, Calls Try.prog 36 #[.int .i64 2, nmV jsa, nmV jsa] u fun e u' => e = .returned (nmV jaa) ∧ Below u.heap.size u u') := fun u => by
          have := HMu.out sa sa u
          rw [haa, kaa, ksa] at this
          exact this
        obtain ⟨bb, hbb⟩ : ∃ v : Fin m, sb * sb = v := ⟨_, rfl⟩
        obtain ⟨jbb, kbb⟩ : ∃ j, J bb = j := ⟨_, rfl⟩
        have Kbb : Hid (∀ u : World, Calls Try.prog 36 #[.int .i64 2, nmV jsb, nmV jsb] u fun e u' => e = .returned (nmV jbb) ∧ Below u.heap.size u u') := fun u => by
          have := HMu.out sb sb u
          rw [hbb, kbb, ksb] at this
          exact this
        obtain ⟨dd, hdd⟩ : ∃ v : Fin m, aa - bb = v := ⟨_, rfl⟩
        obtain ⟨jdd, kdd⟩ : ∃ j, J dd = j := ⟨_, rfl⟩
        have Kdd : Hid (∀ u : World, Calls Try.prog 35 #[.int .i64 2, nmV jaa, nmV jbb] u fun e u' => e = .returned (nmV jdd) ∧ Below u.heap.size u u') := fun u => by
          have := HSu.out aa bb u
          rw [hdd, kdd, kaa, kbb] at this
          exact this
        obtain ⟨ea, hea⟩ : ∃ v : Fin m, A3 - C3 = v := ⟨_, rfl⟩
        obtain ⟨jea, kea⟩ : ∃ j, J ea = j := ⟨_, rfl⟩
        have Kea : Hid (∀ u : World, Calls Try.prog 35 #[.int .i64 2, nmV jA3, nmV jC3] u fun e u' => e = .returned (nmV jea) ∧ Below u.heap.size u u') := fun u => by
          have := HSu.out A3 C3 u
          rw [hea, kea, kA3, kC3] at this
          exact this
        obtain ⟨da, hda⟩ : ∃ v : Fin m, ea * sa = v := ⟨_, rfl⟩
        obtain ⟨jda, kda⟩ : ∃ j, J da = j := ⟨_, rfl⟩
        have Kda : Hid (∀ u : World, Calls Try.prog 36 #[.int .i64 2, nmV jea, nmV jsa] u fun e u' => e = .returned (nmV jda) ∧ Below u.heap.size u u') := fun u => by
          have := HMu.out ea sa u
          rw [hda, kda, kea, ksa] at this
          exact this
        obtain ⟨eb, heb⟩ : ∃ v : Fin m, A3 + C3 = v := ⟨_, rfl⟩
        obtain ⟨jeb, keb⟩ : ∃ j, J eb = j := ⟨_, rfl⟩
        have Keb : Hid (∀ u : World, Calls Try.prog 34 #[.int .i64 2, nmV jA3, nmV jC3] u fun e u' => e = .returned (nmV jeb) ∧ Below u.heap.size u u') := fun u => by
          have := HAd.out A3 C3 u
          rw [heb, keb, kA3, kC3] at this
          exact this
        obtain ⟨cb, hcb⟩ : ∃ v : Fin m, eb * sb = v := ⟨_, rfl⟩
        obtain ⟨jcb, kcb⟩ : ∃ j, J cb = j := ⟨_, rfl⟩
        have Kcb : Hid (∀ u : World, Calls Try.prog 36 #[.int .i64 2, nmV jeb, nmV jsb] u fun e u' => e = .returned (nmV jcb) ∧ Below u.heap.size u u') := fun u => by
          have := HMu.out eb sb u
          rw [hcb, kcb, keb, ksb] at this
          exact this
        obtain ⟨st, hst⟩ : ∃ v : Fin m, da + cb = v := ⟨_, rfl⟩
        obtain ⟨jst, kst⟩ : ∃ j, J st = j := ⟨_, rfl⟩
        have Kst : Hid (∀ u : World, Calls Try.prog 34 #[.int .i64 2, nmV jda, nmV jcb] u fun e u' => e = .returned (nmV jst) ∧ Below u.heap.size u u') := fun u => by
          have := HAd.out da cb u
          rw [hst, kst, kda, kcb] at this
          exact this
        obtain ⟨mt, hmt⟩ : ∃ v : Fin m, da - cb = v := ⟨_, rfl⟩
        obtain ⟨jmt, kmt⟩ : ∃ j, J mt = j := ⟨_, rfl⟩
        have Kmt : Hid (∀ u : World, Calls Try.prog 35 #[.int .i64 2, nmV jda, nmV jcb] u fun e u' => e = .returned (nmV jmt) ∧ Below u.heap.size u u') := fun u => by
          have := HSu.out da cb u
          rw [hmt, kmt, kda, kcb] at this
          exact this
        obtain ⟨ss, hss⟩ : ∃ v : Fin m, st * st = v := ⟨_, rfl⟩
        obtain ⟨jss, kss⟩ : ∃ j, J ss = j := ⟨_, rfl⟩
        have Kss : Hid (∀ u : World, Calls Try.prog 36 #[.int .i64 2, nmV jst, nmV jst] u fun e u' => e = .returned (nmV jss) ∧ Below u.heap.size u u') := fun u => by
          have := HMu.out st st u
          rw [hss, kss, kst] at this
          exact this
        obtain ⟨mm, hmm⟩ : ∃ v : Fin m, mt * mt = v := ⟨_, rfl⟩
        obtain ⟨jmm, kmm⟩ : ∃ j, J mm = j := ⟨_, rfl⟩
        have Kmm : Hid (∀ u : World, Calls Try.prog 36 #[.int .i64 2, nmV jmt, nmV jmt] u fun e u' => e = .returned (nmV jmm) ∧ Below u.heap.size u u') := fun u => by
          have := HMu.out mt mt u
          rw [hmm, kmm, kmt] at this
          exact this
        obtain ⟨z3, hz3⟩ : ∃ v : Fin m, x * mm = v := ⟨_, rfl⟩
        obtain ⟨jz3, kz3⟩ : ∃ j, J z3 = j := ⟨_, rfl⟩
        have Kz3 : Hid (∀ u : World, Calls Try.prog 36 #[.int .i64 2, nmV jx, nmV jmm] u fun e u' => e = .returned (nmV jz3) ∧ Below u.heap.size u u') := fun u => by
          have := HMu.out x mm u
          rw [hz3, kz3, kx, kmm] at this
          exact this
        obtain ⟨x2, hx2⟩ : ∃ v : Fin m, aa * bb = v := ⟨_, rfl⟩
        obtain ⟨jx2, kx2⟩ : ∃ j, J x2 = j := ⟨_, rfl⟩
        have Kx2 : Hid (∀ u : World, Calls Try.prog 36 #[.int .i64 2, nmV jaa, nmV jbb] u fun e u' => e = .returned (nmV jx2) ∧ Below u.heap.size u u') := fun u => by
          have := HMu.out aa bb u
          rw [hx2, kx2, kaa, kbb] at this
          exact this
        obtain ⟨fa, hfa⟩ : ∃ v : Fin m, a * dd = v := ⟨_, rfl⟩
        obtain ⟨jfa, kfa⟩ : ∃ j, J fa = j := ⟨_, rfl⟩
        have Kfa : Hid (∀ u : World, Calls Try.prog 36 #[.int .i64 2, nmV ja, nmV jdd] u fun e u' => e = .returned (nmV jfa) ∧ Below u.heap.size u u') := fun u => by
          have := HMu.out a dd u
          rw [hfa, kfa, ka, kdd] at this
          exact this
        obtain ⟨fb, hfb⟩ : ∃ v : Fin m, aa + fa = v := ⟨_, rfl⟩
        obtain ⟨jfb, kfb⟩ : ∃ j, J fb = j := ⟨_, rfl⟩
        have Kfb : Hid (∀ u : World, Calls Try.prog 34 #[.int .i64 2, nmV jaa, nmV jfa] u fun e u' => e = .returned (nmV jfb) ∧ Below u.heap.size u u') := fun u => by
          have := HAd.out aa fa u
          rw [hfb, kfb, kaa, kfa] at this
          exact this
        obtain ⟨z2, hz2⟩ : ∃ v : Fin m, dd * fb = v := ⟨_, rfl⟩
        obtain ⟨jz2, kz2⟩ : ∃ j, J z2 = j := ⟨_, rfl⟩
        have Kz2 : Hid (∀ u : World, Calls Try.prog 36 #[.int .i64 2, nmV jdd, nmV jfb] u fun e u' => e = .returned (nmV jz2) ∧ Below u.heap.size u u') := fun u => by
          have := HMu.out dd fb u
          rw [hz2, kz2, kdd, kfb] at this
          exact this
        have HD : Hid ( A2 + C2 = sa ∧ A2 - C2 = sb ∧ sa * sa = aa ∧ sb * sb = bb ∧ aa - bb = dd ∧ A3 - C3 = ea ∧ ea * sa = da ∧ A3 + C3 = eb ∧ eb * sb = cb ∧ da + cb = st ∧ da - cb = mt ∧ st * st = ss ∧ mt * mt = mm ∧ x * mm = z3 ∧ aa * bb = x2 ∧ a * dd = fa ∧ aa + fa = fb ∧ dd * fb = z2) := ⟨hsa, hsb, haa, hbb, hdd, hea, hda, heb, hcb, hst, hmt, hss, hmm, hz3, hx2, hfa, hfb, hz2⟩
        have HKj : Hid (J x2 = jx2 ∧ J z2 = jz2 ∧ J ss = jss ∧ J z3 = jz3) := ⟨kx2, kz2, kss, kz3⟩
        clear hsa hsb haa hbb hdd hea hda heb hcb hst hmt hss hmm hz3 hx2 hfa hfb hz2 ksa ksb kaa kbb kdd kea kda keb kcb kst kmt kss kmm kz3 kx2 kfa kfb kz2
        go_upto_region 14 with (fail)
        go_upto_region 14 with (fail)
        have hSd := HM.out.drew
        clear HM
        refine wp_region_held (S := fun u => Env 50 w u n0 [(q8, jA2), (q9, jC2), (q10, jA3), (q11, jC3), (g7, ja), (g6, j1), ((w.heap.size + 2), 0), ((w.heap.size + 1), jx), (w.heap.size, E)]) (by kernel_rfl) ?_
        change wpAnyH _ _ _ _ _ _ _ _ wr.drew
        have HSx := Lib.hid hSd
        clear hSd
        generalize wr.drew = wd at HSx ⊢
        refine takeH (i := 0) (some 54) (.int .i64 2) rfl rfl rfl (by kernel_rfl) (by kernel_rfl) (by kernel_rfl) (fun _ _ _ h => h) (fun w _ => by go_simp) HSx.out ?_
        simp only [Act.put, set1, set2, set3]
        refine takeH (i := 1) (some 55) (.agg (nmA (lb jA2))) rfl rfl rfl (by kernel_rfl) (by kernel_rfl) (by kernel_rfl) (fun _ _ _ h => h) (load_row 50 _ rfl q8 (by kernel_rfl) 50 (nmA (lb jA2)) (0, 0) _ Try.underlying50 rfl (by kernel_rfl) (fun w h => h.get 0 rfl)) HSx.out ?_
        simp only [Act.put, set1, set2, set3]
        refine takeH (i := 2) (some 56) (.agg (nmA (lb jC2))) rfl rfl rfl (by kernel_rfl) (by kernel_rfl) (by kernel_rfl) (fun _ _ _ h => h) (load_row 50 _ rfl q9 (by kernel_rfl) 50 (nmA (lb jC2)) (0, 0) _ Try.underlying50 rfl (by kernel_rfl) (fun w h => h.get 1 rfl)) HSx.out ?_
        simp only [Act.put, set1, set2, set3]
        refine takeH (i := 4) (some 58) (.int .i64 2) rfl rfl rfl (by kernel_rfl) (by kernel_rfl) (by kernel_rfl) (fun _ _ _ h => h) (fun w _ => by go_simp) HSx.out ?_
        simp only [Act.put, set1, set2, set3]
        refine takeH (i := 5) (some 59) (.agg (nmA (lb jA2))) rfl rfl rfl (by kernel_rfl) (by kernel_rfl) (by kernel_rfl) (fun _ _ _ h => h) (load_row 50 _ rfl q8 (by kernel_rfl) 50 (nmA (lb jA2)) (0, 0) _ Try.underlying50 rfl (by kernel_rfl) (fun w h => h.get 0 rfl)) HSx.out ?_
        simp only [Act.put, set1, set2, set3]
        refine takeH (i := 6) (some 60) (.agg (nmA (lb jC2))) rfl rfl rfl (by kernel_rfl) (by kernel_rfl) (by kernel_rfl) (fun _ _ _ h => h) (load_row 50 _ rfl q9 (by kernel_rfl) 50 (nmA (lb jC2)) (0, 0) _ Try.underlying50 rfl (by kernel_rfl) (fun w h => h.get 1 rfl)) HSx.out ?_
        simp only [Act.put, set1, set2, set3]
        refine meetH (fun (x : Nat × Nat) a => ((((a.put (some 57) (nmV jsa)).put (some 61) (nmV jsb)).put (some 15) (.pointer (some ⟨x.1, 0, none⟩))).put (some 16) (.pointer (some ⟨x.2, 0, none⟩)))) #[true, true, true, true, true, true, true, true, true, true, false, false] 2 (fun (x : Nat × Nat) W => (Env 50 w W n0 [(q8, jA2), (q9, jC2), (q10, jA3), (q11, jC3), (g7, ja), (g6, j1), ((w.heap.size + 2), 0), ((w.heap.size + 1), jx), (w.heap.size, E)]) ∧ (n0 ≤ x.1 ∧ Cell 50 W x.1 0) ∧ (n0 ≤ x.2 ∧ Cell 50 W x.2 0) ∧ (¬ x.1 = x.2)) ?_ (fun key2_010 => ?_)
        rotate_left
        · simp only [Act.put, set1, set2, set3] at key2_010
          have key2_01 := Lib.hid key2_010
          clear key2_010
          refine meetH (fun (x : Nat × Nat) a => (((a.put (some 57) (nmV jsa)).put (some 15) (.pointer (some ⟨x.1, 0, none⟩))).put (some 16) (.pointer (some ⟨x.2, 0, none⟩)))) #[true, true, true, true, true, true, true, false, true, true, false, false] 3 (fun (x : Nat × Nat) W => (Env 50 w W n0 [(q8, jA2), (q9, jC2), (q10, jA3), (q11, jC3), (g7, ja), (g6, j1), ((w.heap.size + 2), 0), ((w.heap.size + 1), jx), (w.heap.size, E)]) ∧ (n0 ≤ x.1 ∧ Cell 50 W x.1 0) ∧ (n0 ≤ x.2 ∧ Cell 50 W x.2 0) ∧ (¬ x.1 = x.2)) ?_ (fun key1_010 => ?_)
          · rintro ⟨q15, q16⟩ W ⟨hS, ⟨hn0, hc0⟩, ⟨hn1, hc1⟩, hd01⟩
            simp only [Act.put, set1, set2, set3]
            refine wpAnyH_ready (rs := [7]) (by kernel_rfl) (by simp) ?_
            refine callH (some 61) rfl rfl rfl 35 _ _ rfl (fun _ _ => by go_simp) #[.int .i64 2, nmV jA2, nmV jC2] (by kernel_rfl) ?_ AllReadyH.nil
            · refine (Ksb.out W).mono ?_
              rintro e u ⟨rfl, hb⟩
              refine ⟨_, rfl, hS.on hb, ?_⟩
              simp only [Act.put, set1, set2, set3]
              exact key2_01.out (q15, q16) _ ⟨hS.on hb, ⟨hn0, hc0.on hb⟩, ⟨hn1, hc1.on hb⟩, hd01⟩
          simp only [Act.put, set1, set2, set3] at key1_010
          have key1_01 := Lib.hid key1_010
          clear key1_010
          refine meetH (fun (x : Nat × Nat) a => (((a.put (some 57) (nmV jsa)).put (some 61) (nmV jsb)).put (some 15) (.pointer (some ⟨x.1, 0, none⟩)))) #[true, true, true, true, true, true, true, true, true, false, false, false] 3 (fun (x : Nat × Nat) W => (Env 50 w W n0 [(q8, jA2), (q9, jC2), (q10, jA3), (q11, jC3), (g7, ja), (g6, j1), ((w.heap.size + 2), 0), ((w.heap.size + 1), jx), (w.heap.size, E)]) ∧ (n0 ≤ x.1 ∧ Cell 50 W x.1 0)) ?_ (fun key2_00 => ?_)
          · rintro ⟨q15, q16⟩ W ⟨hS, ⟨hn0, hc0⟩⟩
            simp only [Act.put, set1, set2, set3]
            refine wpAnyH_ready (rs := [9]) (by kernel_rfl) (by simp) ?_
            refine allocH (some 16) rfl rfl rfl 50 rfl (nmA (lb 0)) alloc_0 (hS.alloc _) ?_ AllReadyH.nil
            · simp only [Act.put, set1, set2, set3]
              exact key2_01.out (q15, W.heap.size) _ ⟨hS.alloc _, ⟨hn0, hc0.alloc _⟩, ⟨hS.size, Cell.new _ _ 0⟩, (fun (e : q15 = W.heap.size) => by have h : q15 < W.heap.size := hc0.lt; omega)⟩
          simp only [Act.put, set1, set2, set3] at key2_00
          have key2_0 := Lib.hid key2_00
          clear key2_00
          refine meetH (fun (x : Nat × Nat) a => (((a.put (some 57) (nmV jsa)).put (some 61) (nmV jsb)).put (some 16) (.pointer (some ⟨x.2, 0, none⟩)))) #[true, true, true, true, true, true, true, true, false, true, false, false] 3 (fun (x : Nat × Nat) W => (Env 50 w W n0 [(q8, jA2), (q9, jC2), (q10, jA3), (q11, jC3), (g7, ja), (g6, j1), ((w.heap.size + 2), 0), ((w.heap.size + 1), jx), (w.heap.size, E)]) ∧ (n0 ≤ x.2 ∧ Cell 50 W x.2 0)) ?_ (fun key2_10 => ?_)
          · rintro ⟨q15, q16⟩ W ⟨hS, ⟨hn1, hc1⟩⟩
            simp only [Act.put, set1, set2, set3]
            refine wpAnyH_ready (rs := [8]) (by kernel_rfl) (by simp) ?_
            refine allocH (some 15) rfl rfl rfl 50 rfl (nmA (lb 0)) alloc_0 (hS.alloc _) ?_ AllReadyH.nil
            · simp only [Act.put, set1, set2, set3]
              exact key2_01.out (W.heap.size, q16) _ ⟨hS.alloc _, ⟨hS.size, Cell.new _ _ 0⟩, ⟨hn1, hc1.alloc _⟩, (fun (e : W.heap.size = q16) => by have h : q16 < W.heap.size := hc1.lt; omega)⟩
          simp only [Act.put, set1, set2, set3] at key2_10
          have key2_1 := Lib.hid key2_10
          clear key2_10
          refine meetH (fun (x : Nat × Nat) a => ((a.put (some 15) (.pointer (some ⟨x.1, 0, none⟩))).put (some 16) (.pointer (some ⟨x.2, 0, none⟩)))) #[true, true, true, false, true, true, true, false, true, true, false, false] 4 (fun (x : Nat × Nat) W => (Env 50 w W n0 [(q8, jA2), (q9, jC2), (q10, jA3), (q11, jC3), (g7, ja), (g6, j1), ((w.heap.size + 2), 0), ((w.heap.size + 1), jx), (w.heap.size, E)]) ∧ (n0 ≤ x.1 ∧ Cell 50 W x.1 0) ∧ (n0 ≤ x.2 ∧ Cell 50 W x.2 0) ∧ (¬ x.1 = x.2)) ?_ (fun key0_010 => ?_)
          · rintro ⟨q15, q16⟩ W ⟨hS, ⟨hn0, hc0⟩, ⟨hn1, hc1⟩, hd01⟩
            simp only [Act.put, set1, set2, set3]
            refine wpAnyH_ready (rs := [3]) (by kernel_rfl) (by simp) ?_
            refine callH (some 57) rfl rfl rfl 34 _ _ rfl (fun _ _ => by go_simp) #[.int .i64 2, nmV jA2, nmV jC2] (by kernel_rfl) ?_ AllReadyH.nil
            · refine (Ksa.out W).mono ?_
              rintro e u ⟨rfl, hb⟩
              refine ⟨_, rfl, hS.on hb, ?_⟩
              simp only [Act.put, set1, set2, set3]
              exact key1_01.out (q15, q16) _ ⟨hS.on hb, ⟨hn0, hc0.on hb⟩, ⟨hn1, hc1.on hb⟩, hd01⟩
          simp only [Act.put, set1, set2, set3] at key0_010
          have key0_01 := Lib.hid key0_010
          clear key0_010
          refine meetH (fun (x : Nat × Nat) a => ((a.put (some 57) (nmV jsa)).put (some 15) (.pointer (some ⟨x.1, 0, none⟩)))) #[true, true, true, true, true, true, true, false, true, false, false, false] 4 (fun (x : Nat × Nat) W => (Env 50 w W n0 [(q8, jA2), (q9, jC2), (q10, jA3), (q11, jC3), (g7, ja), (g6, j1), ((w.heap.size + 2), 0), ((w.heap.size + 1), jx), (w.heap.size, E)]) ∧ (n0 ≤ x.1 ∧ Cell 50 W x.1 0)) ?_ (fun key1_00 => ?_)
          · rintro ⟨q15, q16⟩ W ⟨hS, ⟨hn0, hc0⟩⟩
            simp only [Act.put, set1, set2, set3]
            refine wpAnyH_ready (rs := [7, 9]) (by kernel_rfl) (by simp) ?_
            refine callH (some 61) rfl rfl rfl 35 _ _ rfl (fun _ _ => by go_simp) #[.int .i64 2, nmV jA2, nmV jC2] (by kernel_rfl) ?_ (allocH (some 16) rfl rfl rfl 50 rfl (nmA (lb 0)) alloc_0 (hS.alloc _) ?_ AllReadyH.nil)
            · refine (Ksb.out W).mono ?_
              rintro e u ⟨rfl, hb⟩
              refine ⟨_, rfl, hS.on hb, ?_⟩
              simp only [Act.put, set1, set2, set3]
              exact key2_0.out (q15, 0) _ ⟨hS.on hb, ⟨hn0, hc0.on hb⟩⟩
            · simp only [Act.put, set1, set2, set3]
              exact key1_01.out (q15, W.heap.size) _ ⟨hS.alloc _, ⟨hn0, hc0.alloc _⟩, ⟨hS.size, Cell.new _ _ 0⟩, (fun (e : q15 = W.heap.size) => by have h : q15 < W.heap.size := hc0.lt; omega)⟩
          simp only [Act.put, set1, set2, set3] at key1_00
          have key1_0 := Lib.hid key1_00
          clear key1_00
          refine meetH (fun (x : Nat × Nat) a => ((a.put (some 57) (nmV jsa)).put (some 16) (.pointer (some ⟨x.2, 0, none⟩)))) #[true, true, true, true, true, true, true, false, false, true, false, false] 4 (fun (x : Nat × Nat) W => (Env 50 w W n0 [(q8, jA2), (q9, jC2), (q10, jA3), (q11, jC3), (g7, ja), (g6, j1), ((w.heap.size + 2), 0), ((w.heap.size + 1), jx), (w.heap.size, E)]) ∧ (n0 ≤ x.2 ∧ Cell 50 W x.2 0)) ?_ (fun key1_10 => ?_)
          · rintro ⟨q15, q16⟩ W ⟨hS, ⟨hn1, hc1⟩⟩
            simp only [Act.put, set1, set2, set3]
            refine wpAnyH_ready (rs := [7, 8]) (by kernel_rfl) (by simp) ?_
            refine callH (some 61) rfl rfl rfl 35 _ _ rfl (fun _ _ => by go_simp) #[.int .i64 2, nmV jA2, nmV jC2] (by kernel_rfl) ?_ (allocH (some 15) rfl rfl rfl 50 rfl (nmA (lb 0)) alloc_0 (hS.alloc _) ?_ AllReadyH.nil)
            · refine (Ksb.out W).mono ?_
              rintro e u ⟨rfl, hb⟩
              refine ⟨_, rfl, hS.on hb, ?_⟩
              simp only [Act.put, set1, set2, set3]
              exact key2_1.out (0, q16) _ ⟨hS.on hb, ⟨hn1, hc1.on hb⟩⟩
            · simp only [Act.put, set1, set2, set3]
              exact key1_01.out (W.heap.size, q16) _ ⟨hS.alloc _, ⟨hS.size, Cell.new _ _ 0⟩, ⟨hn1, hc1.alloc _⟩, (fun (e : W.heap.size = q16) => by have h : q16 < W.heap.size := hc1.lt; omega)⟩
          simp only [Act.put, set1, set2, set3] at key1_10
          have key1_1 := Lib.hid key1_10
          clear key1_10
          refine meetH (fun (x : Nat × Nat) a => ((a.put (some 57) (nmV jsa)).put (some 61) (nmV jsb))) #[true, true, true, true, true, true, true, true, false, false, false, false] 4 (fun (x : Nat × Nat) W => (Env 50 w W n0 [(q8, jA2), (q9, jC2), (q10, jA3), (q11, jC3), (g7, ja), (g6, j1), ((w.heap.size + 2), 0), ((w.heap.size + 1), jx), (w.heap.size, E)])) ?_ (fun key2_0 => ?_)
          · rintro ⟨q15, q16⟩ W hS
            simp only [Act.put, set1, set2, set3]
            refine wpAnyH_ready (rs := [8, 9]) (by kernel_rfl) (by simp) ?_
            refine allocH (some 15) rfl rfl rfl 50 rfl (nmA (lb 0)) alloc_0 (hS.alloc _) ?_ (allocH (some 16) rfl rfl rfl 50 rfl (nmA (lb 0)) alloc_0 (hS.alloc _) ?_ AllReadyH.nil)
            · simp only [Act.put, set1, set2, set3]
              exact key2_0.out (W.heap.size, 0) _ ⟨hS.alloc _, ⟨hS.size, Cell.new _ _ 0⟩⟩
            · simp only [Act.put, set1, set2, set3]
              exact key2_1.out (0, W.heap.size) _ ⟨hS.alloc _, ⟨hS.size, Cell.new _ _ 0⟩⟩
          simp only [Act.put, set1, set2, set3] at key2_0
          have key2_ := Lib.hid key2_0
          clear key2_0
          refine meetH (fun (x : Nat × Nat) a => (a.put (some 15) (.pointer (some ⟨x.1, 0, none⟩)))) #[true, true, true, false, true, true, true, false, true, false, false, false] 5 (fun (x : Nat × Nat) W => (Env 50 w W n0 [(q8, jA2), (q9, jC2), (q10, jA3), (q11, jC3), (g7, ja), (g6, j1), ((w.heap.size + 2), 0), ((w.heap.size + 1), jx), (w.heap.size, E)]) ∧ (n0 ≤ x.1 ∧ Cell 50 W x.1 0)) ?_ (fun key0_00 => ?_)
          · rintro ⟨q15, q16⟩ W ⟨hS, ⟨hn0, hc0⟩⟩
            simp only [Act.put, set1, set2, set3]
            refine wpAnyH_ready (rs := [3, 9]) (by kernel_rfl) (by simp) ?_
            refine callH (some 57) rfl rfl rfl 34 _ _ rfl (fun _ _ => by go_simp) #[.int .i64 2, nmV jA2, nmV jC2] (by kernel_rfl) ?_ (allocH (some 16) rfl rfl rfl 50 rfl (nmA (lb 0)) alloc_0 (hS.alloc _) ?_ AllReadyH.nil)
            · refine (Ksa.out W).mono ?_
              rintro e u ⟨rfl, hb⟩
              refine ⟨_, rfl, hS.on hb, ?_⟩
              simp only [Act.put, set1, set2, set3]
              exact key1_0.out (q15, 0) _ ⟨hS.on hb, ⟨hn0, hc0.on hb⟩⟩
            · simp only [Act.put, set1, set2, set3]
              exact key0_01.out (q15, W.heap.size) _ ⟨hS.alloc _, ⟨hn0, hc0.alloc _⟩, ⟨hS.size, Cell.new _ _ 0⟩, (fun (e : q15 = W.heap.size) => by have h : q15 < W.heap.size := hc0.lt; omega)⟩
          simp only [Act.put, set1, set2, set3] at key0_00
          have key0_0 := Lib.hid key0_00
          clear key0_00
          refine meetH (fun (x : Nat × Nat) a => (a.put (some 16) (.pointer (some ⟨x.2, 0, none⟩)))) #[true, true, true, false, true, true, true, false, false, true, false, false] 5 (fun (x : Nat × Nat) W => (Env 50 w W n0 [(q8, jA2), (q9, jC2), (q10, jA3), (q11, jC3), (g7, ja), (g6, j1), ((w.heap.size + 2), 0), ((w.heap.size + 1), jx), (w.heap.size, E)]) ∧ (n0 ≤ x.2 ∧ Cell 50 W x.2 0)) ?_ (fun key0_10 => ?_)
          · rintro ⟨q15, q16⟩ W ⟨hS, ⟨hn1, hc1⟩⟩
            simp only [Act.put, set1, set2, set3]
            refine wpAnyH_ready (rs := [3, 8]) (by kernel_rfl) (by simp) ?_
            refine callH (some 57) rfl rfl rfl 34 _ _ rfl (fun _ _ => by go_simp) #[.int .i64 2, nmV jA2, nmV jC2] (by kernel_rfl) ?_ (allocH (some 15) rfl rfl rfl 50 rfl (nmA (lb 0)) alloc_0 (hS.alloc _) ?_ AllReadyH.nil)
            · refine (Ksa.out W).mono ?_
              rintro e u ⟨rfl, hb⟩
              refine ⟨_, rfl, hS.on hb, ?_⟩
              simp only [Act.put, set1, set2, set3]
              exact key1_1.out (0, q16) _ ⟨hS.on hb, ⟨hn1, hc1.on hb⟩⟩
            · simp only [Act.put, set1, set2, set3]
              exact key0_01.out (W.heap.size, q16) _ ⟨hS.alloc _, ⟨hS.size, Cell.new _ _ 0⟩, ⟨hn1, hc1.alloc _⟩, (fun (e : W.heap.size = q16) => by have h : q16 < W.heap.size := hc1.lt; omega)⟩
          simp only [Act.put, set1, set2, set3] at key0_10
          have key0_1 := Lib.hid key0_10
          clear key0_10
          refine meetH (fun (x : Nat × Nat) a => (a.put (some 57) (nmV jsa))) #[true, true, true, true, true, true, true, false, false, false, false, false] 5 (fun (x : Nat × Nat) W => (Env 50 w W n0 [(q8, jA2), (q9, jC2), (q10, jA3), (q11, jC3), (g7, ja), (g6, j1), ((w.heap.size + 2), 0), ((w.heap.size + 1), jx), (w.heap.size, E)])) ?_ (fun key1_0 => ?_)
          · rintro ⟨q15, q16⟩ W hS
            simp only [Act.put, set1, set2, set3]
            refine wpAnyH_ready (rs := [7, 8, 9]) (by kernel_rfl) (by simp) ?_
            refine callH (some 61) rfl rfl rfl 35 _ _ rfl (fun _ _ => by go_simp) #[.int .i64 2, nmV jA2, nmV jC2] (by kernel_rfl) ?_ (allocH (some 15) rfl rfl rfl 50 rfl (nmA (lb 0)) alloc_0 (hS.alloc _) ?_ (allocH (some 16) rfl rfl rfl 50 rfl (nmA (lb 0)) alloc_0 (hS.alloc _) ?_ AllReadyH.nil))
            · refine (Ksb.out W).mono ?_
              rintro e u ⟨rfl, hb⟩
              refine ⟨_, rfl, hS.on hb, ?_⟩
              simp only [Act.put, set1, set2, set3]
              exact key2_.out (0, 0) _ (hS.on hb)
            · simp only [Act.put, set1, set2, set3]
              exact key1_0.out (W.heap.size, 0) _ ⟨hS.alloc _, ⟨hS.size, Cell.new _ _ 0⟩⟩
            · simp only [Act.put, set1, set2, set3]
              exact key1_1.out (0, W.heap.size) _ ⟨hS.alloc _, ⟨hS.size, Cell.new _ _ 0⟩⟩
          simp only [Act.put, set1, set2, set3] at key1_0
          have key1_ := Lib.hid key1_0
          clear key1_0
          refine wpAnyH_ready (rs := [3, 8, 9]) (by kernel_rfl) (by simp) ?_
          refine callH (some 57) rfl rfl rfl 34 _ _ rfl (fun _ _ => by go_simp) #[.int .i64 2, nmV jA2, nmV jC2] (by kernel_rfl) ?_ (allocH (some 15) rfl rfl rfl 50 rfl (nmA (lb 0)) alloc_0 (HSx.out.alloc _) ?_ (allocH (some 16) rfl rfl rfl 50 rfl (nmA (lb 0)) alloc_0 (HSx.out.alloc _) ?_ AllReadyH.nil))
          · refine (Ksa.out wd).mono ?_
            rintro e u ⟨rfl, hb⟩
            refine ⟨_, rfl, HSx.out.on hb, ?_⟩
            simp only [Act.put, set1, set2, set3]
            exact key1_.out (0, 0) _ (HSx.out.on hb)
          · simp only [Act.put, set1, set2, set3]
            exact key0_0.out (wd.heap.size, 0) _ ⟨HSx.out.alloc _, ⟨HSx.out.size, Cell.new _ _ 0⟩⟩
          · simp only [Act.put, set1, set2, set3]
            exact key0_1.out (0, wd.heap.size) _ ⟨HSx.out.alloc _, ⟨HSx.out.size, Cell.new _ _ 0⟩⟩
        rintro ⟨q15, q16⟩ W ⟨hS, ⟨hn0, hc0⟩, ⟨hn1, hc1⟩, hd01⟩
        simp only [Act.put, set1, set2, set3]
        have HE := Lib.hid hS
        have C0 := Lib.hid hc0
        have C1 := Lib.hid hc1
        refine wpAnyH_ready (rs := [10]) (by kernel_rfl) (by simp) ?_
        refine storeH rfl rfl rfl 50 _ _ rfl q15 (nmA (lb jsa)) (by kernel_rfl) (by kernel_rfl) 50 _ C0.out (by kernel_rfl) (by first | rw [nmA_size, nmA_size] | rfl) (nmA_one _) (HE.out.far _ hn0) ?_ AllReadyH.nil
        have HE := Lib.hid (HE.out.far (nmA (lb jsa)) hn0)
        have C0 := Lib.hid (C0.out.put jsa)
        have C1 := Lib.hid (C1.out.far (nmA (lb jsa)) (fun e => hd01 e.symm))
        generalize W.setRow q15 (nmA (lb jsa)) = ws0 at HE C0 C1 ⊢
        simp only [Act.put, set1, set2, set3]
        refine wpAnyH_ready (rs := [11]) (by kernel_rfl) (by simp) ?_
        refine storeH rfl rfl rfl 50 _ _ rfl q16 (nmA (lb jsb)) (by kernel_rfl) (by kernel_rfl) 50 _ C1.out (by kernel_rfl) (by first | rw [nmA_size, nmA_size] | rfl) (nmA_one _) (HE.out.far _ hn1) ?_ AllReadyH.nil
        have HE := Lib.hid (HE.out.far (nmA (lb jsb)) hn1)
        have C0 := Lib.hid (C0.out.far (nmA (lb jsb)) hd01)
        have C1 := Lib.hid (C1.out.put jsb)
        generalize ws0.setRow q16 (nmA (lb jsb)) = ws1 at HE C0 C1 ⊢
        simp only [Act.put, set1, set2, set3]
        refine wpAnyH_done (by kernel_rfl) ?_ _
        have HM := Lib.hid ((((HE.out).add (Nat.le_trans HE.out.base hn1) (HE.out.old hn1) C1.out)).add (Nat.le_trans HE.out.base hn0) (new_cons (HE.out.old hn0) hd01) C0.out)
        clear HE C0 hn0 hc0 C1 hn1 hc1 hd01
        generalize ws1.heap.size = n1 at HM
        generalize ws1 = wz at HM ⊢
        go_upto_region 15 with (fail)
        have hSd := HM.out.drew
        clear HM
        refine wp_region_held (S := fun u => Env 50 w u n1 [(q15, jsa), (q16, jsb), (q8, jA2), (q9, jC2), (q10, jA3), (q11, jC3), (g7, ja), (g6, j1), ((w.heap.size + 2), 0), ((w.heap.size + 1), jx), (w.heap.size, E)]) (by kernel_rfl) ?_
        change wpAnyH _ _ _ _ _ _ _ _ wz.drew
        have HSx := Lib.hid hSd
        clear hSd
        generalize wz.drew = wd at HSx ⊢
        refine takeH (i := 0) (some 62) (.int .i64 2) rfl rfl rfl (by kernel_rfl) (by kernel_rfl) (by kernel_rfl) (fun _ _ _ h => h) (fun w _ => by go_simp) HSx.out ?_
        simp only [Act.put, set1, set2, set3]
        refine takeH (i := 1) (some 63) (.agg (nmA (lb jsa))) rfl rfl rfl (by kernel_rfl) (by kernel_rfl) (by kernel_rfl) (fun _ _ _ h => h) (load_row 50 _ rfl q15 (by kernel_rfl) 50 (nmA (lb jsa)) (0, 0) _ Try.underlying50 rfl (by kernel_rfl) (fun w h => h.get 0 rfl)) HSx.out ?_
        simp only [Act.put, set1, set2, set3]
        refine takeH (i := 2) (some 64) (.agg (nmA (lb jsa))) rfl rfl rfl (by kernel_rfl) (by kernel_rfl) (by kernel_rfl) (fun _ _ _ h => h) (load_row 50 _ rfl q15 (by kernel_rfl) 50 (nmA (lb jsa)) (0, 0) _ Try.underlying50 rfl (by kernel_rfl) (fun w h => h.get 0 rfl)) HSx.out ?_
        simp only [Act.put, set1, set2, set3]
        refine takeH (i := 4) (some 66) (.int .i64 2) rfl rfl rfl (by kernel_rfl) (by kernel_rfl) (by kernel_rfl) (fun _ _ _ h => h) (fun w _ => by go_simp) HSx.out ?_
        simp only [Act.put, set1, set2, set3]
        refine takeH (i := 5) (some 67) (.agg (nmA (lb jsb))) rfl rfl rfl (by kernel_rfl) (by kernel_rfl) (by kernel_rfl) (fun _ _ _ h => h) (load_row 50 _ rfl q16 (by kernel_rfl) 50 (nmA (lb jsb)) (0, 0) _ Try.underlying50 rfl (by kernel_rfl) (fun w h => h.get 1 rfl)) HSx.out ?_
        simp only [Act.put, set1, set2, set3]
        refine takeH (i := 6) (some 68) (.agg (nmA (lb jsb))) rfl rfl rfl (by kernel_rfl) (by kernel_rfl) (by kernel_rfl) (fun _ _ _ h => h) (load_row 50 _ rfl q16 (by kernel_rfl) 50 (nmA (lb jsb)) (0, 0) _ Try.underlying50 rfl (by kernel_rfl) (fun w h => h.get 1 rfl)) HSx.out ?_
        simp only [Act.put, set1, set2, set3]
        refine meetH (fun (x : Nat × Nat) a => ((((a.put (some 65) (nmV jaa)).put (some 69) (nmV jbb)).put (some 17) (.pointer (some ⟨x.1, 0, none⟩))).put (some 18) (.pointer (some ⟨x.2, 0, none⟩)))) #[true, true, true, true, true, true, true, true, true, true, false, false] 2 (fun (x : Nat × Nat) W => (Env 50 w W n1 [(q15, jsa), (q16, jsb), (q8, jA2), (q9, jC2), (q10, jA3), (q11, jC3), (g7, ja), (g6, j1), ((w.heap.size + 2), 0), ((w.heap.size + 1), jx), (w.heap.size, E)]) ∧ (n1 ≤ x.1 ∧ Cell 50 W x.1 0) ∧ (n1 ≤ x.2 ∧ Cell 50 W x.2 0) ∧ (¬ x.1 = x.2)) ?_ (fun key2_010 => ?_)
        rotate_left
        · simp only [Act.put, set1, set2, set3] at key2_010
          have key2_01 := Lib.hid key2_010
          clear key2_010
          refine meetH (fun (x : Nat × Nat) a => (((a.put (some 65) (nmV jaa)).put (some 17) (.pointer (some ⟨x.1, 0, none⟩))).put (some 18) (.pointer (some ⟨x.2, 0, none⟩)))) #[true, true, true, true, true, true, true, false, true, true, false, false] 3 (fun (x : Nat × Nat) W => (Env 50 w W n1 [(q15, jsa), (q16, jsb), (q8, jA2), (q9, jC2), (q10, jA3), (q11, jC3), (g7, ja), (g6, j1), ((w.heap.size + 2), 0), ((w.heap.size + 1), jx), (w.heap.size, E)]) ∧ (n1 ≤ x.1 ∧ Cell 50 W x.1 0) ∧ (n1 ≤ x.2 ∧ Cell 50 W x.2 0) ∧ (¬ x.1 = x.2)) ?_ (fun key1_010 => ?_)
          · rintro ⟨q17, q18⟩ W ⟨hS, ⟨hn0, hc0⟩, ⟨hn1, hc1⟩, hd01⟩
            simp only [Act.put, set1, set2, set3]
            refine wpAnyH_ready (rs := [7]) (by kernel_rfl) (by simp) ?_
            refine callH (some 69) rfl rfl rfl 36 _ _ rfl (fun _ _ => by go_simp) #[.int .i64 2, nmV jsb, nmV jsb] (by kernel_rfl) ?_ AllReadyH.nil
            · refine (Kbb.out W).mono ?_
              rintro e u ⟨rfl, hb⟩
              refine ⟨_, rfl, hS.on hb, ?_⟩
              simp only [Act.put, set1, set2, set3]
              exact key2_01.out (q17, q18) _ ⟨hS.on hb, ⟨hn0, hc0.on hb⟩, ⟨hn1, hc1.on hb⟩, hd01⟩
          simp only [Act.put, set1, set2, set3] at key1_010
          have key1_01 := Lib.hid key1_010
          clear key1_010
          refine meetH (fun (x : Nat × Nat) a => (((a.put (some 65) (nmV jaa)).put (some 69) (nmV jbb)).put (some 17) (.pointer (some ⟨x.1, 0, none⟩)))) #[true, true, true, true, true, true, true, true, true, false, false, false] 3 (fun (x : Nat × Nat) W => (Env 50 w W n1 [(q15, jsa), (q16, jsb), (q8, jA2), (q9, jC2), (q10, jA3), (q11, jC3), (g7, ja), (g6, j1), ((w.heap.size + 2), 0), ((w.heap.size + 1), jx), (w.heap.size, E)]) ∧ (n1 ≤ x.1 ∧ Cell 50 W x.1 0)) ?_ (fun key2_00 => ?_)
          · rintro ⟨q17, q18⟩ W ⟨hS, ⟨hn0, hc0⟩⟩
            simp only [Act.put, set1, set2, set3]
            refine wpAnyH_ready (rs := [9]) (by kernel_rfl) (by simp) ?_
            refine allocH (some 18) rfl rfl rfl 50 rfl (nmA (lb 0)) alloc_0 (hS.alloc _) ?_ AllReadyH.nil
            · simp only [Act.put, set1, set2, set3]
              exact key2_01.out (q17, W.heap.size) _ ⟨hS.alloc _, ⟨hn0, hc0.alloc _⟩, ⟨hS.size, Cell.new _ _ 0⟩, (fun (e : q17 = W.heap.size) => by have h : q17 < W.heap.size := hc0.lt; omega)⟩
          simp only [Act.put, set1, set2, set3] at key2_00
          have key2_0 := Lib.hid key2_00
          clear key2_00
          refine meetH (fun (x : Nat × Nat) a => (((a.put (some 65) (nmV jaa)).put (some 69) (nmV jbb)).put (some 18) (.pointer (some ⟨x.2, 0, none⟩)))) #[true, true, true, true, true, true, true, true, false, true, false, false] 3 (fun (x : Nat × Nat) W => (Env 50 w W n1 [(q15, jsa), (q16, jsb), (q8, jA2), (q9, jC2), (q10, jA3), (q11, jC3), (g7, ja), (g6, j1), ((w.heap.size + 2), 0), ((w.heap.size + 1), jx), (w.heap.size, E)]) ∧ (n1 ≤ x.2 ∧ Cell 50 W x.2 0)) ?_ (fun key2_10 => ?_)
          · rintro ⟨q17, q18⟩ W ⟨hS, ⟨hn1, hc1⟩⟩
            simp only [Act.put, set1, set2, set3]
            refine wpAnyH_ready (rs := [8]) (by kernel_rfl) (by simp) ?_
            refine allocH (some 17) rfl rfl rfl 50 rfl (nmA (lb 0)) alloc_0 (hS.alloc _) ?_ AllReadyH.nil
            · simp only [Act.put, set1, set2, set3]
              exact key2_01.out (W.heap.size, q18) _ ⟨hS.alloc _, ⟨hS.size, Cell.new _ _ 0⟩, ⟨hn1, hc1.alloc _⟩, (fun (e : W.heap.size = q18) => by have h : q18 < W.heap.size := hc1.lt; omega)⟩
          simp only [Act.put, set1, set2, set3] at key2_10
          have key2_1 := Lib.hid key2_10
          clear key2_10
          refine meetH (fun (x : Nat × Nat) a => ((a.put (some 17) (.pointer (some ⟨x.1, 0, none⟩))).put (some 18) (.pointer (some ⟨x.2, 0, none⟩)))) #[true, true, true, false, true, true, true, false, true, true, false, false] 4 (fun (x : Nat × Nat) W => (Env 50 w W n1 [(q15, jsa), (q16, jsb), (q8, jA2), (q9, jC2), (q10, jA3), (q11, jC3), (g7, ja), (g6, j1), ((w.heap.size + 2), 0), ((w.heap.size + 1), jx), (w.heap.size, E)]) ∧ (n1 ≤ x.1 ∧ Cell 50 W x.1 0) ∧ (n1 ≤ x.2 ∧ Cell 50 W x.2 0) ∧ (¬ x.1 = x.2)) ?_ (fun key0_010 => ?_)
          · rintro ⟨q17, q18⟩ W ⟨hS, ⟨hn0, hc0⟩, ⟨hn1, hc1⟩, hd01⟩
            simp only [Act.put, set1, set2, set3]
            refine wpAnyH_ready (rs := [3]) (by kernel_rfl) (by simp) ?_
            refine callH (some 65) rfl rfl rfl 36 _ _ rfl (fun _ _ => by go_simp) #[.int .i64 2, nmV jsa, nmV jsa] (by kernel_rfl) ?_ AllReadyH.nil
            · refine (Kaa.out W).mono ?_
              rintro e u ⟨rfl, hb⟩
              refine ⟨_, rfl, hS.on hb, ?_⟩
              simp only [Act.put, set1, set2, set3]
              exact key1_01.out (q17, q18) _ ⟨hS.on hb, ⟨hn0, hc0.on hb⟩, ⟨hn1, hc1.on hb⟩, hd01⟩
          simp only [Act.put, set1, set2, set3] at key0_010
          have key0_01 := Lib.hid key0_010
          clear key0_010
          refine meetH (fun (x : Nat × Nat) a => ((a.put (some 65) (nmV jaa)).put (some 17) (.pointer (some ⟨x.1, 0, none⟩)))) #[true, true, true, true, true, true, true, false, true, false, false, false] 4 (fun (x : Nat × Nat) W => (Env 50 w W n1 [(q15, jsa), (q16, jsb), (q8, jA2), (q9, jC2), (q10, jA3), (q11, jC3), (g7, ja), (g6, j1), ((w.heap.size + 2), 0), ((w.heap.size + 1), jx), (w.heap.size, E)]) ∧ (n1 ≤ x.1 ∧ Cell 50 W x.1 0)) ?_ (fun key1_00 => ?_)
          · rintro ⟨q17, q18⟩ W ⟨hS, ⟨hn0, hc0⟩⟩
            simp only [Act.put, set1, set2, set3]
            refine wpAnyH_ready (rs := [7, 9]) (by kernel_rfl) (by simp) ?_
            refine callH (some 69) rfl rfl rfl 36 _ _ rfl (fun _ _ => by go_simp) #[.int .i64 2, nmV jsb, nmV jsb] (by kernel_rfl) ?_ (allocH (some 18) rfl rfl rfl 50 rfl (nmA (lb 0)) alloc_0 (hS.alloc _) ?_ AllReadyH.nil)
            · refine (Kbb.out W).mono ?_
              rintro e u ⟨rfl, hb⟩
              refine ⟨_, rfl, hS.on hb, ?_⟩
              simp only [Act.put, set1, set2, set3]
              exact key2_0.out (q17, 0) _ ⟨hS.on hb, ⟨hn0, hc0.on hb⟩⟩
            · simp only [Act.put, set1, set2, set3]
              exact key1_01.out (q17, W.heap.size) _ ⟨hS.alloc _, ⟨hn0, hc0.alloc _⟩, ⟨hS.size, Cell.new _ _ 0⟩, (fun (e : q17 = W.heap.size) => by have h : q17 < W.heap.size := hc0.lt; omega)⟩
          simp only [Act.put, set1, set2, set3] at key1_00
          have key1_0 := Lib.hid key1_00
          clear key1_00
          refine meetH (fun (x : Nat × Nat) a => ((a.put (some 65) (nmV jaa)).put (some 18) (.pointer (some ⟨x.2, 0, none⟩)))) #[true, true, true, true, true, true, true, false, false, true, false, false] 4 (fun (x : Nat × Nat) W => (Env 50 w W n1 [(q15, jsa), (q16, jsb), (q8, jA2), (q9, jC2), (q10, jA3), (q11, jC3), (g7, ja), (g6, j1), ((w.heap.size + 2), 0), ((w.heap.size + 1), jx), (w.heap.size, E)]) ∧ (n1 ≤ x.2 ∧ Cell 50 W x.2 0)) ?_ (fun key1_10 => ?_)
          · rintro ⟨q17, q18⟩ W ⟨hS, ⟨hn1, hc1⟩⟩
            simp only [Act.put, set1, set2, set3]
            refine wpAnyH_ready (rs := [7, 8]) (by kernel_rfl) (by simp) ?_
            refine callH (some 69) rfl rfl rfl 36 _ _ rfl (fun _ _ => by go_simp) #[.int .i64 2, nmV jsb, nmV jsb] (by kernel_rfl) ?_ (allocH (some 17) rfl rfl rfl 50 rfl (nmA (lb 0)) alloc_0 (hS.alloc _) ?_ AllReadyH.nil)
            · refine (Kbb.out W).mono ?_
              rintro e u ⟨rfl, hb⟩
              refine ⟨_, rfl, hS.on hb, ?_⟩
              simp only [Act.put, set1, set2, set3]
              exact key2_1.out (0, q18) _ ⟨hS.on hb, ⟨hn1, hc1.on hb⟩⟩
            · simp only [Act.put, set1, set2, set3]
              exact key1_01.out (W.heap.size, q18) _ ⟨hS.alloc _, ⟨hS.size, Cell.new _ _ 0⟩, ⟨hn1, hc1.alloc _⟩, (fun (e : W.heap.size = q18) => by have h : q18 < W.heap.size := hc1.lt; omega)⟩
          simp only [Act.put, set1, set2, set3] at key1_10
          have key1_1 := Lib.hid key1_10
          clear key1_10
          refine meetH (fun (x : Nat × Nat) a => ((a.put (some 65) (nmV jaa)).put (some 69) (nmV jbb))) #[true, true, true, true, true, true, true, true, false, false, false, false] 4 (fun (x : Nat × Nat) W => (Env 50 w W n1 [(q15, jsa), (q16, jsb), (q8, jA2), (q9, jC2), (q10, jA3), (q11, jC3), (g7, ja), (g6, j1), ((w.heap.size + 2), 0), ((w.heap.size + 1), jx), (w.heap.size, E)])) ?_ (fun key2_0 => ?_)
          · rintro ⟨q17, q18⟩ W hS
            simp only [Act.put, set1, set2, set3]
            refine wpAnyH_ready (rs := [8, 9]) (by kernel_rfl) (by simp) ?_
            refine allocH (some 17) rfl rfl rfl 50 rfl (nmA (lb 0)) alloc_0 (hS.alloc _) ?_ (allocH (some 18) rfl rfl rfl 50 rfl (nmA (lb 0)) alloc_0 (hS.alloc _) ?_ AllReadyH.nil)
            · simp only [Act.put, set1, set2, set3]
              exact key2_0.out (W.heap.size, 0) _ ⟨hS.alloc _, ⟨hS.size, Cell.new _ _ 0⟩⟩
            · simp only [Act.put, set1, set2, set3]
              exact key2_1.out (0, W.heap.size) _ ⟨hS.alloc _, ⟨hS.size, Cell.new _ _ 0⟩⟩
          simp only [Act.put, set1, set2, set3] at key2_0
          have key2_ := Lib.hid key2_0
          clear key2_0
          refine meetH (fun (x : Nat × Nat) a => (a.put (some 17) (.pointer (some ⟨x.1, 0, none⟩)))) #[true, true, true, false, true, true, true, false, true, false, false, false] 5 (fun (x : Nat × Nat) W => (Env 50 w W n1 [(q15, jsa), (q16, jsb), (q8, jA2), (q9, jC2), (q10, jA3), (q11, jC3), (g7, ja), (g6, j1), ((w.heap.size + 2), 0), ((w.heap.size + 1), jx), (w.heap.size, E)]) ∧ (n1 ≤ x.1 ∧ Cell 50 W x.1 0)) ?_ (fun key0_00 => ?_)
          · rintro ⟨q17, q18⟩ W ⟨hS, ⟨hn0, hc0⟩⟩
            simp only [Act.put, set1, set2, set3]
            refine wpAnyH_ready (rs := [3, 9]) (by kernel_rfl) (by simp) ?_
            refine callH (some 65) rfl rfl rfl 36 _ _ rfl (fun _ _ => by go_simp) #[.int .i64 2, nmV jsa, nmV jsa] (by kernel_rfl) ?_ (allocH (some 18) rfl rfl rfl 50 rfl (nmA (lb 0)) alloc_0 (hS.alloc _) ?_ AllReadyH.nil)
            · refine (Kaa.out W).mono ?_
              rintro e u ⟨rfl, hb⟩
              refine ⟨_, rfl, hS.on hb, ?_⟩
              simp only [Act.put, set1, set2, set3]
              exact key1_0.out (q17, 0) _ ⟨hS.on hb, ⟨hn0, hc0.on hb⟩⟩
            · simp only [Act.put, set1, set2, set3]
              exact key0_01.out (q17, W.heap.size) _ ⟨hS.alloc _, ⟨hn0, hc0.alloc _⟩, ⟨hS.size, Cell.new _ _ 0⟩, (fun (e : q17 = W.heap.size) => by have h : q17 < W.heap.size := hc0.lt; omega)⟩
          simp only [Act.put, set1, set2, set3] at key0_00
          have key0_0 := Lib.hid key0_00
          clear key0_00
          refine meetH (fun (x : Nat × Nat) a => (a.put (some 18) (.pointer (some ⟨x.2, 0, none⟩)))) #[true, true, true, false, true, true, true, false, false, true, false, false] 5 (fun (x : Nat × Nat) W => (Env 50 w W n1 [(q15, jsa), (q16, jsb), (q8, jA2), (q9, jC2), (q10, jA3), (q11, jC3), (g7, ja), (g6, j1), ((w.heap.size + 2), 0), ((w.heap.size + 1), jx), (w.heap.size, E)]) ∧ (n1 ≤ x.2 ∧ Cell 50 W x.2 0)) ?_ (fun key0_10 => ?_)
          · rintro ⟨q17, q18⟩ W ⟨hS, ⟨hn1, hc1⟩⟩
            simp only [Act.put, set1, set2, set3]
            refine wpAnyH_ready (rs := [3, 8]) (by kernel_rfl) (by simp) ?_
            refine callH (some 65) rfl rfl rfl 36 _ _ rfl (fun _ _ => by go_simp) #[.int .i64 2, nmV jsa, nmV jsa] (by kernel_rfl) ?_ (allocH (some 17) rfl rfl rfl 50 rfl (nmA (lb 0)) alloc_0 (hS.alloc _) ?_ AllReadyH.nil)
            · refine (Kaa.out W).mono ?_
              rintro e u ⟨rfl, hb⟩
              refine ⟨_, rfl, hS.on hb, ?_⟩
              simp only [Act.put, set1, set2, set3]
              exact key1_1.out (0, q18) _ ⟨hS.on hb, ⟨hn1, hc1.on hb⟩⟩
            · simp only [Act.put, set1, set2, set3]
              exact key0_01.out (W.heap.size, q18) _ ⟨hS.alloc _, ⟨hS.size, Cell.new _ _ 0⟩, ⟨hn1, hc1.alloc _⟩, (fun (e : W.heap.size = q18) => by have h : q18 < W.heap.size := hc1.lt; omega)⟩
          simp only [Act.put, set1, set2, set3] at key0_10
          have key0_1 := Lib.hid key0_10
          clear key0_10
          refine meetH (fun (x : Nat × Nat) a => (a.put (some 65) (nmV jaa))) #[true, true, true, true, true, true, true, false, false, false, false, false] 5 (fun (x : Nat × Nat) W => (Env 50 w W n1 [(q15, jsa), (q16, jsb), (q8, jA2), (q9, jC2), (q10, jA3), (q11, jC3), (g7, ja), (g6, j1), ((w.heap.size + 2), 0), ((w.heap.size + 1), jx), (w.heap.size, E)])) ?_ (fun key1_0 => ?_)
          · rintro ⟨q17, q18⟩ W hS
            simp only [Act.put, set1, set2, set3]
            refine wpAnyH_ready (rs := [7, 8, 9]) (by kernel_rfl) (by simp) ?_
            refine callH (some 69) rfl rfl rfl 36 _ _ rfl (fun _ _ => by go_simp) #[.int .i64 2, nmV jsb, nmV jsb] (by kernel_rfl) ?_ (allocH (some 17) rfl rfl rfl 50 rfl (nmA (lb 0)) alloc_0 (hS.alloc _) ?_ (allocH (some 18) rfl rfl rfl 50 rfl (nmA (lb 0)) alloc_0 (hS.alloc _) ?_ AllReadyH.nil))
            · refine (Kbb.out W).mono ?_
              rintro e u ⟨rfl, hb⟩
              refine ⟨_, rfl, hS.on hb, ?_⟩
              simp only [Act.put, set1, set2, set3]
              exact key2_.out (0, 0) _ (hS.on hb)
            · simp only [Act.put, set1, set2, set3]
              exact key1_0.out (W.heap.size, 0) _ ⟨hS.alloc _, ⟨hS.size, Cell.new _ _ 0⟩⟩
            · simp only [Act.put, set1, set2, set3]
              exact key1_1.out (0, W.heap.size) _ ⟨hS.alloc _, ⟨hS.size, Cell.new _ _ 0⟩⟩
          simp only [Act.put, set1, set2, set3] at key1_0
          have key1_ := Lib.hid key1_0
          clear key1_0
          refine wpAnyH_ready (rs := [3, 8, 9]) (by kernel_rfl) (by simp) ?_
          refine callH (some 65) rfl rfl rfl 36 _ _ rfl (fun _ _ => by go_simp) #[.int .i64 2, nmV jsa, nmV jsa] (by kernel_rfl) ?_ (allocH (some 17) rfl rfl rfl 50 rfl (nmA (lb 0)) alloc_0 (HSx.out.alloc _) ?_ (allocH (some 18) rfl rfl rfl 50 rfl (nmA (lb 0)) alloc_0 (HSx.out.alloc _) ?_ AllReadyH.nil))
          · refine (Kaa.out wd).mono ?_
            rintro e u ⟨rfl, hb⟩
            refine ⟨_, rfl, HSx.out.on hb, ?_⟩
            simp only [Act.put, set1, set2, set3]
            exact key1_.out (0, 0) _ (HSx.out.on hb)
          · simp only [Act.put, set1, set2, set3]
            exact key0_0.out (wd.heap.size, 0) _ ⟨HSx.out.alloc _, ⟨HSx.out.size, Cell.new _ _ 0⟩⟩
          · simp only [Act.put, set1, set2, set3]
            exact key0_1.out (0, wd.heap.size) _ ⟨HSx.out.alloc _, ⟨HSx.out.size, Cell.new _ _ 0⟩⟩
        rintro ⟨q17, q18⟩ W ⟨hS, ⟨hn0, hc0⟩, ⟨hn1, hc1⟩, hd01⟩
        simp only [Act.put, set1, set2, set3]
        have HE := Lib.hid hS
        have C0 := Lib.hid hc0
        have C1 := Lib.hid hc1
        refine wpAnyH_ready (rs := [10]) (by kernel_rfl) (by simp) ?_
        refine storeH rfl rfl rfl 50 _ _ rfl q17 (nmA (lb jaa)) (by kernel_rfl) (by kernel_rfl) 50 _ C0.out (by kernel_rfl) (by first | rw [nmA_size, nmA_size] | rfl) (nmA_one _) (HE.out.far _ hn0) ?_ AllReadyH.nil
        have HE := Lib.hid (HE.out.far (nmA (lb jaa)) hn0)
        have C0 := Lib.hid (C0.out.put jaa)
        have C1 := Lib.hid (C1.out.far (nmA (lb jaa)) (fun e => hd01 e.symm))
        generalize W.setRow q17 (nmA (lb jaa)) = ws0 at HE C0 C1 ⊢
        simp only [Act.put, set1, set2, set3]
        refine wpAnyH_ready (rs := [11]) (by kernel_rfl) (by simp) ?_
        refine storeH rfl rfl rfl 50 _ _ rfl q18 (nmA (lb jbb)) (by kernel_rfl) (by kernel_rfl) 50 _ C1.out (by kernel_rfl) (by first | rw [nmA_size, nmA_size] | rfl) (nmA_one _) (HE.out.far _ hn1) ?_ AllReadyH.nil
        have HE := Lib.hid (HE.out.far (nmA (lb jbb)) hn1)
        have C0 := Lib.hid (C0.out.far (nmA (lb jbb)) hd01)
        have C1 := Lib.hid (C1.out.put jbb)
        generalize ws0.setRow q18 (nmA (lb jbb)) = ws1 at HE C0 C1 ⊢
        simp only [Act.put, set1, set2, set3]
        refine wpAnyH_done (by kernel_rfl) ?_ _
        have HM := Lib.hid ((((HE.out).add (Nat.le_trans HE.out.base hn1) (HE.out.old hn1) C1.out)).add (Nat.le_trans HE.out.base hn0) (new_cons (HE.out.old hn0) hd01) C0.out)
        clear HE C0 hn0 hc0 C1 hn1 hc1 hd01
        generalize ws1.heap.size = n2 at HM
        generalize ws1 = wz at HM ⊢
        go_upto_region 16 with (fail)
        apply wp_region_lit
        refine Lw.wpList_val rfl (.int .i64 2) wz (by go_simp) ?_
        refine wpList_load_row rfl 50 _ rfl q17 (by kernel_rfl) 50 (nmA (lb jaa)) (0, 0) _ (HM.out.get 0 rfl) Try.underlying50 rfl (by kernel_rfl) ?_
        refine wpList_load_row rfl 50 _ rfl q18 (by kernel_rfl) 50 (nmA (lb jbb)) (0, 0) _ (HM.out.get 1 rfl) Try.underlying50 rfl (by kernel_rfl) ?_
        simp only [Act.put, set1, set2, set3]
        refine Lw.wpList_callTo (some 73) rfl rfl 35 _ _ rfl (fun _ _ => by go_simp) #[.int .i64 2, nmV jaa, nmV jbb] (by kernel_rfl) ?_
        refine (Kdd.out wz).mono ?_
        rintro e ul ⟨rfl, hb⟩
        refine ⟨_, rfl, ?_⟩
        have HM := Lib.hid (HM.out.on hb)
        clear hb
        simp only [Act.put, set1, set2, set3]
        refine wpList_alloc_to rfl 50 rfl (nmA (lb 0)) ul.heap.size rfl alloc_0 ?_
        simp only [Act.put, set1, set2, set3]
        refine wpList_store_row rfl 50 _ _ rfl ul.heap.size (nmA (lb jdd)) (by kernel_rfl) (by kernel_rfl) 50 _ (heap_alloc_last _ _) (by kernel_rfl) (by rw [nmA_size, nmA_size]) (nmA_one _) ?_
        rw [World.setRow_alloc_new]
        simp only [Act.put]
        have HM := Lib.hid ((HM.out.alloc (.cells (nmA (lb jdd)) 50)).cons (HM.out.size) (Cell.new 50 ul jdd))
        generalize ul.alloc (.cells (nmA (lb jdd)) 50) = wl at HM ⊢
        generalize ul.heap.size = q19 at HM ⊢
        generalize q19 + 1 = n3 at HM
        go_upto_region 17 with (fail)
        have hSd := HM.out.drew
        clear HM
        refine wp_region_held (S := fun u => Env 50 w u n3 [(q19, jdd), (q17, jaa), (q18, jbb), (q15, jsa), (q16, jsb), (q8, jA2), (q9, jC2), (q10, jA3), (q11, jC3), (g7, ja), (g6, j1), ((w.heap.size + 2), 0), ((w.heap.size + 1), jx), (w.heap.size, E)]) (by kernel_rfl) ?_
        change wpAnyH _ _ _ _ _ _ _ _ wl.drew
        have HSx := Lib.hid hSd
        clear hSd
        generalize wl.drew = wd at HSx ⊢
        refine takeH (i := 0) (some 74) (.int .i64 2) rfl rfl rfl (by kernel_rfl) (by kernel_rfl) (by kernel_rfl) (fun _ _ _ h => h) (fun w _ => by go_simp) HSx.out ?_
        simp only [Act.put, set1, set2, set3]
        refine takeH (i := 1) (some 75) (.int .i64 2) rfl rfl rfl (by kernel_rfl) (by kernel_rfl) (by kernel_rfl) (fun _ _ _ h => h) (fun w _ => by go_simp) HSx.out ?_
        simp only [Act.put, set1, set2, set3]
        refine takeH (i := 2) (some 76) (.agg (nmA (lb jA3))) rfl rfl rfl (by kernel_rfl) (by kernel_rfl) (by kernel_rfl) (fun _ _ _ h => h) (load_row 50 _ rfl q10 (by kernel_rfl) 50 (nmA (lb jA3)) (0, 0) _ Try.underlying50 rfl (by kernel_rfl) (fun w h => h.get 7 rfl)) HSx.out ?_
        simp only [Act.put, set1, set2, set3]
        refine takeH (i := 3) (some 77) (.agg (nmA (lb jC3))) rfl rfl rfl (by kernel_rfl) (by kernel_rfl) (by kernel_rfl) (fun _ _ _ h => h) (load_row 50 _ rfl q11 (by kernel_rfl) 50 (nmA (lb jC3)) (0, 0) _ Try.underlying50 rfl (by kernel_rfl) (fun w h => h.get 8 rfl)) HSx.out ?_
        simp only [Act.put, set1, set2, set3]
        refine takeH (i := 5) (some 79) (.agg (nmA (lb jsa))) rfl rfl rfl (by kernel_rfl) (by kernel_rfl) (by kernel_rfl) (fun _ _ _ h => h) (load_row 50 _ rfl q15 (by kernel_rfl) 50 (nmA (lb jsa)) (0, 0) _ Try.underlying50 rfl (by kernel_rfl) (fun w h => h.get 3 rfl)) HSx.out ?_
        simp only [Act.put, set1, set2, set3]
        refine takeH (i := 7) (some 81) (.int .i64 2) rfl rfl rfl (by kernel_rfl) (by kernel_rfl) (by kernel_rfl) (fun _ _ _ h => h) (fun w _ => by go_simp) HSx.out ?_
        simp only [Act.put, set1, set2, set3]
        refine takeH (i := 8) (some 82) (.int .i64 2) rfl rfl rfl (by kernel_rfl) (by kernel_rfl) (by kernel_rfl) (fun _ _ _ h => h) (fun w _ => by go_simp) HSx.out ?_
        simp only [Act.put, set1, set2, set3]
        refine takeH (i := 9) (some 83) (.agg (nmA (lb jA3))) rfl rfl rfl (by kernel_rfl) (by kernel_rfl) (by kernel_rfl) (fun _ _ _ h => h) (load_row 50 _ rfl q10 (by kernel_rfl) 50 (nmA (lb jA3)) (0, 0) _ Try.underlying50 rfl (by kernel_rfl) (fun w h => h.get 7 rfl)) HSx.out ?_
        simp only [Act.put, set1, set2, set3]
        refine takeH (i := 10) (some 84) (.agg (nmA (lb jC3))) rfl rfl rfl (by kernel_rfl) (by kernel_rfl) (by kernel_rfl) (fun _ _ _ h => h) (load_row 50 _ rfl q11 (by kernel_rfl) 50 (nmA (lb jC3)) (0, 0) _ Try.underlying50 rfl (by kernel_rfl) (fun w h => h.get 8 rfl)) HSx.out ?_
        simp only [Act.put, set1, set2, set3]
        refine takeH (i := 12) (some 86) (.agg (nmA (lb jsb))) rfl rfl rfl (by kernel_rfl) (by kernel_rfl) (by kernel_rfl) (fun _ _ _ h => h) (load_row 50 _ rfl q16 (by kernel_rfl) 50 (nmA (lb jsb)) (0, 0) _ Try.underlying50 rfl (by kernel_rfl) (fun w h => h.get 4 rfl)) HSx.out ?_
        simp only [Act.put, set1, set2, set3]
        refine meetH (fun (x : Nat × Nat) a => ((((((a.put (some 78) (nmV jea)).put (some 80) (nmV jda)).put (some 85) (nmV jeb)).put (some 87) (nmV jcb)).put (some 20) (.pointer (some ⟨x.1, 0, none⟩))).put (some 21) (.pointer (some ⟨x.2, 0, none⟩)))) #[true, true, true, true, true, true, true, true, true, true, true, true, true, true, true, true, false, false] 2 (fun (x : Nat × Nat) W => (Env 50 w W n3 [(q19, jdd), (q17, jaa), (q18, jbb), (q15, jsa), (q16, jsb), (q8, jA2), (q9, jC2), (q10, jA3), (q11, jC3), (g7, ja), (g6, j1), ((w.heap.size + 2), 0), ((w.heap.size + 1), jx), (w.heap.size, E)]) ∧ (n3 ≤ x.1 ∧ Cell 50 W x.1 0) ∧ (n3 ≤ x.2 ∧ Cell 50 W x.2 0) ∧ (¬ x.1 = x.2)) ?_ (fun key4_010 => ?_)
        rotate_left
        · simp only [Act.put, set1, set2, set3] at key4_010
          have key4_01 := Lib.hid key4_010
          clear key4_010
          refine meetH (fun (x : Nat × Nat) a => (((((a.put (some 78) (nmV jea)).put (some 80) (nmV jda)).put (some 85) (nmV jeb)).put (some 20) (.pointer (some ⟨x.1, 0, none⟩))).put (some 21) (.pointer (some ⟨x.2, 0, none⟩)))) #[true, true, true, true, true, true, true, true, true, true, true, true, true, false, true, true, false, false] 3 (fun (x : Nat × Nat) W => (Env 50 w W n3 [(q19, jdd), (q17, jaa), (q18, jbb), (q15, jsa), (q16, jsb), (q8, jA2), (q9, jC2), (q10, jA3), (q11, jC3), (g7, ja), (g6, j1), ((w.heap.size + 2), 0), ((w.heap.size + 1), jx), (w.heap.size, E)]) ∧ (n3 ≤ x.1 ∧ Cell 50 W x.1 0) ∧ (n3 ≤ x.2 ∧ Cell 50 W x.2 0) ∧ (¬ x.1 = x.2)) ?_ (fun key3_010 => ?_)
          · rintro ⟨q20, q21⟩ W ⟨hS, ⟨hn0, hc0⟩, ⟨hn1, hc1⟩, hd01⟩
            simp only [Act.put, set1, set2, set3]
            refine wpAnyH_ready (rs := [13]) (by kernel_rfl) (by simp) ?_
            refine callH (some 87) rfl rfl rfl 36 _ _ rfl (fun _ _ => by go_simp) #[.int .i64 2, nmV jeb, nmV jsb] (by kernel_rfl) ?_ AllReadyH.nil
            · refine (Kcb.out W).mono ?_
              rintro e u ⟨rfl, hb⟩
              refine ⟨_, rfl, hS.on hb, ?_⟩
              simp only [Act.put, set1, set2, set3]
              exact key4_01.out (q20, q21) _ ⟨hS.on hb, ⟨hn0, hc0.on hb⟩, ⟨hn1, hc1.on hb⟩, hd01⟩
          simp only [Act.put, set1, set2, set3] at key3_010
          have key3_01 := Lib.hid key3_010
          clear key3_010
          refine meetH (fun (x : Nat × Nat) a => (((((a.put (some 78) (nmV jea)).put (some 80) (nmV jda)).put (some 85) (nmV jeb)).put (some 87) (nmV jcb)).put (some 20) (.pointer (some ⟨x.1, 0, none⟩)))) #[true, true, true, true, true, true, true, true, true, true, true, true, true, true, true, false, false, false] 3 (fun (x : Nat × Nat) W => (Env 50 w W n3 [(q19, jdd), (q17, jaa), (q18, jbb), (q15, jsa), (q16, jsb), (q8, jA2), (q9, jC2), (q10, jA3), (q11, jC3), (g7, ja), (g6, j1), ((w.heap.size + 2), 0), ((w.heap.size + 1), jx), (w.heap.size, E)]) ∧ (n3 ≤ x.1 ∧ Cell 50 W x.1 0)) ?_ (fun key4_00 => ?_)
          · rintro ⟨q20, q21⟩ W ⟨hS, ⟨hn0, hc0⟩⟩
            simp only [Act.put, set1, set2, set3]
            refine wpAnyH_ready (rs := [15]) (by kernel_rfl) (by simp) ?_
            refine allocH (some 21) rfl rfl rfl 50 rfl (nmA (lb 0)) alloc_0 (hS.alloc _) ?_ AllReadyH.nil
            · simp only [Act.put, set1, set2, set3]
              exact key4_01.out (q20, W.heap.size) _ ⟨hS.alloc _, ⟨hn0, hc0.alloc _⟩, ⟨hS.size, Cell.new _ _ 0⟩, (fun (e : q20 = W.heap.size) => by have h : q20 < W.heap.size := hc0.lt; omega)⟩
          simp only [Act.put, set1, set2, set3] at key4_00
          have key4_0 := Lib.hid key4_00
          clear key4_00
          refine meetH (fun (x : Nat × Nat) a => (((((a.put (some 78) (nmV jea)).put (some 80) (nmV jda)).put (some 85) (nmV jeb)).put (some 87) (nmV jcb)).put (some 21) (.pointer (some ⟨x.2, 0, none⟩)))) #[true, true, true, true, true, true, true, true, true, true, true, true, true, true, false, true, false, false] 3 (fun (x : Nat × Nat) W => (Env 50 w W n3 [(q19, jdd), (q17, jaa), (q18, jbb), (q15, jsa), (q16, jsb), (q8, jA2), (q9, jC2), (q10, jA3), (q11, jC3), (g7, ja), (g6, j1), ((w.heap.size + 2), 0), ((w.heap.size + 1), jx), (w.heap.size, E)]) ∧ (n3 ≤ x.2 ∧ Cell 50 W x.2 0)) ?_ (fun key4_10 => ?_)
          · rintro ⟨q20, q21⟩ W ⟨hS, ⟨hn1, hc1⟩⟩
            simp only [Act.put, set1, set2, set3]
            refine wpAnyH_ready (rs := [14]) (by kernel_rfl) (by simp) ?_
            refine allocH (some 20) rfl rfl rfl 50 rfl (nmA (lb 0)) alloc_0 (hS.alloc _) ?_ AllReadyH.nil
            · simp only [Act.put, set1, set2, set3]
              exact key4_01.out (W.heap.size, q21) _ ⟨hS.alloc _, ⟨hS.size, Cell.new _ _ 0⟩, ⟨hn1, hc1.alloc _⟩, (fun (e : W.heap.size = q21) => by have h : q21 < W.heap.size := hc1.lt; omega)⟩
          simp only [Act.put, set1, set2, set3] at key4_10
          have key4_1 := Lib.hid key4_10
          clear key4_10
          refine meetH (fun (x : Nat × Nat) a => ((((a.put (some 78) (nmV jea)).put (some 80) (nmV jda)).put (some 20) (.pointer (some ⟨x.1, 0, none⟩))).put (some 21) (.pointer (some ⟨x.2, 0, none⟩)))) #[true, true, true, true, true, true, true, true, true, true, true, false, true, false, true, true, false, false] 4 (fun (x : Nat × Nat) W => (Env 50 w W n3 [(q19, jdd), (q17, jaa), (q18, jbb), (q15, jsa), (q16, jsb), (q8, jA2), (q9, jC2), (q10, jA3), (q11, jC3), (g7, ja), (g6, j1), ((w.heap.size + 2), 0), ((w.heap.size + 1), jx), (w.heap.size, E)]) ∧ (n3 ≤ x.1 ∧ Cell 50 W x.1 0) ∧ (n3 ≤ x.2 ∧ Cell 50 W x.2 0) ∧ (¬ x.1 = x.2)) ?_ (fun key2_010 => ?_)
          · rintro ⟨q20, q21⟩ W ⟨hS, ⟨hn0, hc0⟩, ⟨hn1, hc1⟩, hd01⟩
            simp only [Act.put, set1, set2, set3]
            refine wpAnyH_ready (rs := [11]) (by kernel_rfl) (by simp) ?_
            refine callH (some 85) rfl rfl rfl 34 _ _ rfl (fun _ _ => by go_simp) #[.int .i64 2, nmV jA3, nmV jC3] (by kernel_rfl) ?_ AllReadyH.nil
            · refine (Keb.out W).mono ?_
              rintro e u ⟨rfl, hb⟩
              refine ⟨_, rfl, hS.on hb, ?_⟩
              simp only [Act.put, set1, set2, set3]
              exact key3_01.out (q20, q21) _ ⟨hS.on hb, ⟨hn0, hc0.on hb⟩, ⟨hn1, hc1.on hb⟩, hd01⟩
          simp only [Act.put, set1, set2, set3] at key2_010
          have key2_01 := Lib.hid key2_010
          clear key2_010
          refine meetH (fun (x : Nat × Nat) a => ((((a.put (some 78) (nmV jea)).put (some 80) (nmV jda)).put (some 85) (nmV jeb)).put (some 20) (.pointer (some ⟨x.1, 0, none⟩)))) #[true, true, true, true, true, true, true, true, true, true, true, true, true, false, true, false, false, false] 4 (fun (x : Nat × Nat) W => (Env 50 w W n3 [(q19, jdd), (q17, jaa), (q18, jbb), (q15, jsa), (q16, jsb), (q8, jA2), (q9, jC2), (q10, jA3), (q11, jC3), (g7, ja), (g6, j1), ((w.heap.size + 2), 0), ((w.heap.size + 1), jx), (w.heap.size, E)]) ∧ (n3 ≤ x.1 ∧ Cell 50 W x.1 0)) ?_ (fun key3_00 => ?_)
          · rintro ⟨q20, q21⟩ W ⟨hS, ⟨hn0, hc0⟩⟩
            simp only [Act.put, set1, set2, set3]
            refine wpAnyH_ready (rs := [13, 15]) (by kernel_rfl) (by simp) ?_
            refine callH (some 87) rfl rfl rfl 36 _ _ rfl (fun _ _ => by go_simp) #[.int .i64 2, nmV jeb, nmV jsb] (by kernel_rfl) ?_ (allocH (some 21) rfl rfl rfl 50 rfl (nmA (lb 0)) alloc_0 (hS.alloc _) ?_ AllReadyH.nil)
            · refine (Kcb.out W).mono ?_
              rintro e u ⟨rfl, hb⟩
              refine ⟨_, rfl, hS.on hb, ?_⟩
              simp only [Act.put, set1, set2, set3]
              exact key4_0.out (q20, 0) _ ⟨hS.on hb, ⟨hn0, hc0.on hb⟩⟩
            · simp only [Act.put, set1, set2, set3]
              exact key3_01.out (q20, W.heap.size) _ ⟨hS.alloc _, ⟨hn0, hc0.alloc _⟩, ⟨hS.size, Cell.new _ _ 0⟩, (fun (e : q20 = W.heap.size) => by have h : q20 < W.heap.size := hc0.lt; omega)⟩
          simp only [Act.put, set1, set2, set3] at key3_00
          have key3_0 := Lib.hid key3_00
          clear key3_00
          refine meetH (fun (x : Nat × Nat) a => ((((a.put (some 78) (nmV jea)).put (some 80) (nmV jda)).put (some 85) (nmV jeb)).put (some 21) (.pointer (some ⟨x.2, 0, none⟩)))) #[true, true, true, true, true, true, true, true, true, true, true, true, true, false, false, true, false, false] 4 (fun (x : Nat × Nat) W => (Env 50 w W n3 [(q19, jdd), (q17, jaa), (q18, jbb), (q15, jsa), (q16, jsb), (q8, jA2), (q9, jC2), (q10, jA3), (q11, jC3), (g7, ja), (g6, j1), ((w.heap.size + 2), 0), ((w.heap.size + 1), jx), (w.heap.size, E)]) ∧ (n3 ≤ x.2 ∧ Cell 50 W x.2 0)) ?_ (fun key3_10 => ?_)
          · rintro ⟨q20, q21⟩ W ⟨hS, ⟨hn1, hc1⟩⟩
            simp only [Act.put, set1, set2, set3]
            refine wpAnyH_ready (rs := [13, 14]) (by kernel_rfl) (by simp) ?_
            refine callH (some 87) rfl rfl rfl 36 _ _ rfl (fun _ _ => by go_simp) #[.int .i64 2, nmV jeb, nmV jsb] (by kernel_rfl) ?_ (allocH (some 20) rfl rfl rfl 50 rfl (nmA (lb 0)) alloc_0 (hS.alloc _) ?_ AllReadyH.nil)
            · refine (Kcb.out W).mono ?_
              rintro e u ⟨rfl, hb⟩
              refine ⟨_, rfl, hS.on hb, ?_⟩
              simp only [Act.put, set1, set2, set3]
              exact key4_1.out (0, q21) _ ⟨hS.on hb, ⟨hn1, hc1.on hb⟩⟩
            · simp only [Act.put, set1, set2, set3]
              exact key3_01.out (W.heap.size, q21) _ ⟨hS.alloc _, ⟨hS.size, Cell.new _ _ 0⟩, ⟨hn1, hc1.alloc _⟩, (fun (e : W.heap.size = q21) => by have h : q21 < W.heap.size := hc1.lt; omega)⟩
          simp only [Act.put, set1, set2, set3] at key3_10
          have key3_1 := Lib.hid key3_10
          clear key3_10
          refine meetH (fun (x : Nat × Nat) a => ((((a.put (some 78) (nmV jea)).put (some 80) (nmV jda)).put (some 85) (nmV jeb)).put (some 87) (nmV jcb))) #[true, true, true, true, true, true, true, true, true, true, true, true, true, true, false, false, false, false] 4 (fun (x : Nat × Nat) W => (Env 50 w W n3 [(q19, jdd), (q17, jaa), (q18, jbb), (q15, jsa), (q16, jsb), (q8, jA2), (q9, jC2), (q10, jA3), (q11, jC3), (g7, ja), (g6, j1), ((w.heap.size + 2), 0), ((w.heap.size + 1), jx), (w.heap.size, E)])) ?_ (fun key4_0 => ?_)
          · rintro ⟨q20, q21⟩ W hS
            simp only [Act.put, set1, set2, set3]
            refine wpAnyH_ready (rs := [14, 15]) (by kernel_rfl) (by simp) ?_
            refine allocH (some 20) rfl rfl rfl 50 rfl (nmA (lb 0)) alloc_0 (hS.alloc _) ?_ (allocH (some 21) rfl rfl rfl 50 rfl (nmA (lb 0)) alloc_0 (hS.alloc _) ?_ AllReadyH.nil)
            · simp only [Act.put, set1, set2, set3]
              exact key4_0.out (W.heap.size, 0) _ ⟨hS.alloc _, ⟨hS.size, Cell.new _ _ 0⟩⟩
            · simp only [Act.put, set1, set2, set3]
              exact key4_1.out (0, W.heap.size) _ ⟨hS.alloc _, ⟨hS.size, Cell.new _ _ 0⟩⟩
          simp only [Act.put, set1, set2, set3] at key4_0
          have key4_ := Lib.hid key4_0
          clear key4_0
          refine meetH (fun (x : Nat × Nat) a => (((a.put (some 78) (nmV jea)).put (some 20) (.pointer (some ⟨x.1, 0, none⟩))).put (some 21) (.pointer (some ⟨x.2, 0, none⟩)))) #[true, true, true, true, true, true, false, true, true, true, true, false, true, false, true, true, false, false] 5 (fun (x : Nat × Nat) W => (Env 50 w W n3 [(q19, jdd), (q17, jaa), (q18, jbb), (q15, jsa), (q16, jsb), (q8, jA2), (q9, jC2), (q10, jA3), (q11, jC3), (g7, ja), (g6, j1), ((w.heap.size + 2), 0), ((w.heap.size + 1), jx), (w.heap.size, E)]) ∧ (n3 ≤ x.1 ∧ Cell 50 W x.1 0) ∧ (n3 ≤ x.2 ∧ Cell 50 W x.2 0) ∧ (¬ x.1 = x.2)) ?_ (fun key1_010 => ?_)
          · rintro ⟨q20, q21⟩ W ⟨hS, ⟨hn0, hc0⟩, ⟨hn1, hc1⟩, hd01⟩
            simp only [Act.put, set1, set2, set3]
            refine wpAnyH_ready (rs := [6]) (by kernel_rfl) (by simp) ?_
            refine callH (some 80) rfl rfl rfl 36 _ _ rfl (fun _ _ => by go_simp) #[.int .i64 2, nmV jea, nmV jsa] (by kernel_rfl) ?_ AllReadyH.nil
            · refine (Kda.out W).mono ?_
              rintro e u ⟨rfl, hb⟩
              refine ⟨_, rfl, hS.on hb, ?_⟩
              simp only [Act.put, set1, set2, set3]
              exact key2_01.out (q20, q21) _ ⟨hS.on hb, ⟨hn0, hc0.on hb⟩, ⟨hn1, hc1.on hb⟩, hd01⟩
          simp only [Act.put, set1, set2, set3] at key1_010
          have key1_01 := Lib.hid key1_010
          clear key1_010
          refine meetH (fun (x : Nat × Nat) a => (((a.put (some 78) (nmV jea)).put (some 80) (nmV jda)).put (some 20) (.pointer (some ⟨x.1, 0, none⟩)))) #[true, true, true, true, true, true, true, true, true, true, true, false, true, false, true, false, false, false] 5 (fun (x : Nat × Nat) W => (Env 50 w W n3 [(q19, jdd), (q17, jaa), (q18, jbb), (q15, jsa), (q16, jsb), (q8, jA2), (q9, jC2), (q10, jA3), (q11, jC3), (g7, ja), (g6, j1), ((w.heap.size + 2), 0), ((w.heap.size + 1), jx), (w.heap.size, E)]) ∧ (n3 ≤ x.1 ∧ Cell 50 W x.1 0)) ?_ (fun key2_00 => ?_)
          · rintro ⟨q20, q21⟩ W ⟨hS, ⟨hn0, hc0⟩⟩
            simp only [Act.put, set1, set2, set3]
            refine wpAnyH_ready (rs := [11, 15]) (by kernel_rfl) (by simp) ?_
            refine callH (some 85) rfl rfl rfl 34 _ _ rfl (fun _ _ => by go_simp) #[.int .i64 2, nmV jA3, nmV jC3] (by kernel_rfl) ?_ (allocH (some 21) rfl rfl rfl 50 rfl (nmA (lb 0)) alloc_0 (hS.alloc _) ?_ AllReadyH.nil)
            · refine (Keb.out W).mono ?_
              rintro e u ⟨rfl, hb⟩
              refine ⟨_, rfl, hS.on hb, ?_⟩
              simp only [Act.put, set1, set2, set3]
              exact key3_0.out (q20, 0) _ ⟨hS.on hb, ⟨hn0, hc0.on hb⟩⟩
            · simp only [Act.put, set1, set2, set3]
              exact key2_01.out (q20, W.heap.size) _ ⟨hS.alloc _, ⟨hn0, hc0.alloc _⟩, ⟨hS.size, Cell.new _ _ 0⟩, (fun (e : q20 = W.heap.size) => by have h : q20 < W.heap.size := hc0.lt; omega)⟩
          simp only [Act.put, set1, set2, set3] at key2_00
          have key2_0 := Lib.hid key2_00
          clear key2_00
          refine meetH (fun (x : Nat × Nat) a => (((a.put (some 78) (nmV jea)).put (some 80) (nmV jda)).put (some 21) (.pointer (some ⟨x.2, 0, none⟩)))) #[true, true, true, true, true, true, true, true, true, true, true, false, true, false, false, true, false, false] 5 (fun (x : Nat × Nat) W => (Env 50 w W n3 [(q19, jdd), (q17, jaa), (q18, jbb), (q15, jsa), (q16, jsb), (q8, jA2), (q9, jC2), (q10, jA3), (q11, jC3), (g7, ja), (g6, j1), ((w.heap.size + 2), 0), ((w.heap.size + 1), jx), (w.heap.size, E)]) ∧ (n3 ≤ x.2 ∧ Cell 50 W x.2 0)) ?_ (fun key2_10 => ?_)
          · rintro ⟨q20, q21⟩ W ⟨hS, ⟨hn1, hc1⟩⟩
            simp only [Act.put, set1, set2, set3]
            refine wpAnyH_ready (rs := [11, 14]) (by kernel_rfl) (by simp) ?_
            refine callH (some 85) rfl rfl rfl 34 _ _ rfl (fun _ _ => by go_simp) #[.int .i64 2, nmV jA3, nmV jC3] (by kernel_rfl) ?_ (allocH (some 20) rfl rfl rfl 50 rfl (nmA (lb 0)) alloc_0 (hS.alloc _) ?_ AllReadyH.nil)
            · refine (Keb.out W).mono ?_
              rintro e u ⟨rfl, hb⟩
              refine ⟨_, rfl, hS.on hb, ?_⟩
              simp only [Act.put, set1, set2, set3]
              exact key3_1.out (0, q21) _ ⟨hS.on hb, ⟨hn1, hc1.on hb⟩⟩
            · simp only [Act.put, set1, set2, set3]
              exact key2_01.out (W.heap.size, q21) _ ⟨hS.alloc _, ⟨hS.size, Cell.new _ _ 0⟩, ⟨hn1, hc1.alloc _⟩, (fun (e : W.heap.size = q21) => by have h : q21 < W.heap.size := hc1.lt; omega)⟩
          simp only [Act.put, set1, set2, set3] at key2_10
          have key2_1 := Lib.hid key2_10
          clear key2_10
          refine meetH (fun (x : Nat × Nat) a => (((a.put (some 78) (nmV jea)).put (some 80) (nmV jda)).put (some 85) (nmV jeb))) #[true, true, true, true, true, true, true, true, true, true, true, true, true, false, false, false, false, false] 5 (fun (x : Nat × Nat) W => (Env 50 w W n3 [(q19, jdd), (q17, jaa), (q18, jbb), (q15, jsa), (q16, jsb), (q8, jA2), (q9, jC2), (q10, jA3), (q11, jC3), (g7, ja), (g6, j1), ((w.heap.size + 2), 0), ((w.heap.size + 1), jx), (w.heap.size, E)])) ?_ (fun key3_0 => ?_)
          · rintro ⟨q20, q21⟩ W hS
            simp only [Act.put, set1, set2, set3]
            refine wpAnyH_ready (rs := [13, 14, 15]) (by kernel_rfl) (by simp) ?_
            refine callH (some 87) rfl rfl rfl 36 _ _ rfl (fun _ _ => by go_simp) #[.int .i64 2, nmV jeb, nmV jsb] (by kernel_rfl) ?_ (allocH (some 20) rfl rfl rfl 50 rfl (nmA (lb 0)) alloc_0 (hS.alloc _) ?_ (allocH (some 21) rfl rfl rfl 50 rfl (nmA (lb 0)) alloc_0 (hS.alloc _) ?_ AllReadyH.nil))
            · refine (Kcb.out W).mono ?_
              rintro e u ⟨rfl, hb⟩
              refine ⟨_, rfl, hS.on hb, ?_⟩
              simp only [Act.put, set1, set2, set3]
              exact key4_.out (0, 0) _ (hS.on hb)
            · simp only [Act.put, set1, set2, set3]
              exact key3_0.out (W.heap.size, 0) _ ⟨hS.alloc _, ⟨hS.size, Cell.new _ _ 0⟩⟩
            · simp only [Act.put, set1, set2, set3]
              exact key3_1.out (0, W.heap.size) _ ⟨hS.alloc _, ⟨hS.size, Cell.new _ _ 0⟩⟩
          simp only [Act.put, set1, set2, set3] at key3_0
          have key3_ := Lib.hid key3_0
          clear key3_0
          refine meetH (fun (x : Nat × Nat) a => ((a.put (some 20) (.pointer (some ⟨x.1, 0, none⟩))).put (some 21) (.pointer (some ⟨x.2, 0, none⟩)))) #[true, true, true, true, false, true, false, true, true, true, true, false, true, false, true, true, false, false] 6 (fun (x : Nat × Nat) W => (Env 50 w W n3 [(q19, jdd), (q17, jaa), (q18, jbb), (q15, jsa), (q16, jsb), (q8, jA2), (q9, jC2), (q10, jA3), (q11, jC3), (g7, ja), (g6, j1), ((w.heap.size + 2), 0), ((w.heap.size + 1), jx), (w.heap.size, E)]) ∧ (n3 ≤ x.1 ∧ Cell 50 W x.1 0) ∧ (n3 ≤ x.2 ∧ Cell 50 W x.2 0) ∧ (¬ x.1 = x.2)) ?_ (fun key0_010 => ?_)
          · rintro ⟨q20, q21⟩ W ⟨hS, ⟨hn0, hc0⟩, ⟨hn1, hc1⟩, hd01⟩
            simp only [Act.put, set1, set2, set3]
            refine wpAnyH_ready (rs := [4]) (by kernel_rfl) (by simp) ?_
            refine callH (some 78) rfl rfl rfl 35 _ _ rfl (fun _ _ => by go_simp) #[.int .i64 2, nmV jA3, nmV jC3] (by kernel_rfl) ?_ AllReadyH.nil
            · refine (Kea.out W).mono ?_
              rintro e u ⟨rfl, hb⟩
              refine ⟨_, rfl, hS.on hb, ?_⟩
              simp only [Act.put, set1, set2, set3]
              exact key1_01.out (q20, q21) _ ⟨hS.on hb, ⟨hn0, hc0.on hb⟩, ⟨hn1, hc1.on hb⟩, hd01⟩
          simp only [Act.put, set1, set2, set3] at key0_010
          have key0_01 := Lib.hid key0_010
          clear key0_010
          refine meetH (fun (x : Nat × Nat) a => ((a.put (some 78) (nmV jea)).put (some 20) (.pointer (some ⟨x.1, 0, none⟩)))) #[true, true, true, true, true, true, false, true, true, true, true, false, true, false, true, false, false, false] 6 (fun (x : Nat × Nat) W => (Env 50 w W n3 [(q19, jdd), (q17, jaa), (q18, jbb), (q15, jsa), (q16, jsb), (q8, jA2), (q9, jC2), (q10, jA3), (q11, jC3), (g7, ja), (g6, j1), ((w.heap.size + 2), 0), ((w.heap.size + 1), jx), (w.heap.size, E)]) ∧ (n3 ≤ x.1 ∧ Cell 50 W x.1 0)) ?_ (fun key1_00 => ?_)
          · rintro ⟨q20, q21⟩ W ⟨hS, ⟨hn0, hc0⟩⟩
            simp only [Act.put, set1, set2, set3]
            refine wpAnyH_ready (rs := [6, 15]) (by kernel_rfl) (by simp) ?_
            refine callH (some 80) rfl rfl rfl 36 _ _ rfl (fun _ _ => by go_simp) #[.int .i64 2, nmV jea, nmV jsa] (by kernel_rfl) ?_ (allocH (some 21) rfl rfl rfl 50 rfl (nmA (lb 0)) alloc_0 (hS.alloc _) ?_ AllReadyH.nil)
            · refine (Kda.out W).mono ?_
              rintro e u ⟨rfl, hb⟩
              refine ⟨_, rfl, hS.on hb, ?_⟩
              simp only [Act.put, set1, set2, set3]
              exact key2_0.out (q20, 0) _ ⟨hS.on hb, ⟨hn0, hc0.on hb⟩⟩
            · simp only [Act.put, set1, set2, set3]
              exact key1_01.out (q20, W.heap.size) _ ⟨hS.alloc _, ⟨hn0, hc0.alloc _⟩, ⟨hS.size, Cell.new _ _ 0⟩, (fun (e : q20 = W.heap.size) => by have h : q20 < W.heap.size := hc0.lt; omega)⟩
          simp only [Act.put, set1, set2, set3] at key1_00
          have key1_0 := Lib.hid key1_00
          clear key1_00
          refine meetH (fun (x : Nat × Nat) a => ((a.put (some 78) (nmV jea)).put (some 21) (.pointer (some ⟨x.2, 0, none⟩)))) #[true, true, true, true, true, true, false, true, true, true, true, false, true, false, false, true, false, false] 6 (fun (x : Nat × Nat) W => (Env 50 w W n3 [(q19, jdd), (q17, jaa), (q18, jbb), (q15, jsa), (q16, jsb), (q8, jA2), (q9, jC2), (q10, jA3), (q11, jC3), (g7, ja), (g6, j1), ((w.heap.size + 2), 0), ((w.heap.size + 1), jx), (w.heap.size, E)]) ∧ (n3 ≤ x.2 ∧ Cell 50 W x.2 0)) ?_ (fun key1_10 => ?_)
          · rintro ⟨q20, q21⟩ W ⟨hS, ⟨hn1, hc1⟩⟩
            simp only [Act.put, set1, set2, set3]
            refine wpAnyH_ready (rs := [6, 14]) (by kernel_rfl) (by simp) ?_
            refine callH (some 80) rfl rfl rfl 36 _ _ rfl (fun _ _ => by go_simp) #[.int .i64 2, nmV jea, nmV jsa] (by kernel_rfl) ?_ (allocH (some 20) rfl rfl rfl 50 rfl (nmA (lb 0)) alloc_0 (hS.alloc _) ?_ AllReadyH.nil)
            · refine (Kda.out W).mono ?_
              rintro e u ⟨rfl, hb⟩
              refine ⟨_, rfl, hS.on hb, ?_⟩
              simp only [Act.put, set1, set2, set3]
              exact key2_1.out (0, q21) _ ⟨hS.on hb, ⟨hn1, hc1.on hb⟩⟩
            · simp only [Act.put, set1, set2, set3]
              exact key1_01.out (W.heap.size, q21) _ ⟨hS.alloc _, ⟨hS.size, Cell.new _ _ 0⟩, ⟨hn1, hc1.alloc _⟩, (fun (e : W.heap.size = q21) => by have h : q21 < W.heap.size := hc1.lt; omega)⟩
          simp only [Act.put, set1, set2, set3] at key1_10
          have key1_1 := Lib.hid key1_10
          clear key1_10
          refine meetH (fun (x : Nat × Nat) a => ((a.put (some 78) (nmV jea)).put (some 80) (nmV jda))) #[true, true, true, true, true, true, true, true, true, true, true, false, true, false, false, false, false, false] 6 (fun (x : Nat × Nat) W => (Env 50 w W n3 [(q19, jdd), (q17, jaa), (q18, jbb), (q15, jsa), (q16, jsb), (q8, jA2), (q9, jC2), (q10, jA3), (q11, jC3), (g7, ja), (g6, j1), ((w.heap.size + 2), 0), ((w.heap.size + 1), jx), (w.heap.size, E)])) ?_ (fun key2_0 => ?_)
          · rintro ⟨q20, q21⟩ W hS
            simp only [Act.put, set1, set2, set3]
            refine wpAnyH_ready (rs := [11, 14, 15]) (by kernel_rfl) (by simp) ?_
            refine callH (some 85) rfl rfl rfl 34 _ _ rfl (fun _ _ => by go_simp) #[.int .i64 2, nmV jA3, nmV jC3] (by kernel_rfl) ?_ (allocH (some 20) rfl rfl rfl 50 rfl (nmA (lb 0)) alloc_0 (hS.alloc _) ?_ (allocH (some 21) rfl rfl rfl 50 rfl (nmA (lb 0)) alloc_0 (hS.alloc _) ?_ AllReadyH.nil))
            · refine (Keb.out W).mono ?_
              rintro e u ⟨rfl, hb⟩
              refine ⟨_, rfl, hS.on hb, ?_⟩
              simp only [Act.put, set1, set2, set3]
              exact key3_.out (0, 0) _ (hS.on hb)
            · simp only [Act.put, set1, set2, set3]
              exact key2_0.out (W.heap.size, 0) _ ⟨hS.alloc _, ⟨hS.size, Cell.new _ _ 0⟩⟩
            · simp only [Act.put, set1, set2, set3]
              exact key2_1.out (0, W.heap.size) _ ⟨hS.alloc _, ⟨hS.size, Cell.new _ _ 0⟩⟩
          simp only [Act.put, set1, set2, set3] at key2_0
          have key2_ := Lib.hid key2_0
          clear key2_0
          refine meetH (fun (x : Nat × Nat) a => (a.put (some 20) (.pointer (some ⟨x.1, 0, none⟩)))) #[true, true, true, true, false, true, false, true, true, true, true, false, true, false, true, false, false, false] 7 (fun (x : Nat × Nat) W => (Env 50 w W n3 [(q19, jdd), (q17, jaa), (q18, jbb), (q15, jsa), (q16, jsb), (q8, jA2), (q9, jC2), (q10, jA3), (q11, jC3), (g7, ja), (g6, j1), ((w.heap.size + 2), 0), ((w.heap.size + 1), jx), (w.heap.size, E)]) ∧ (n3 ≤ x.1 ∧ Cell 50 W x.1 0)) ?_ (fun key0_00 => ?_)
          · rintro ⟨q20, q21⟩ W ⟨hS, ⟨hn0, hc0⟩⟩
            simp only [Act.put, set1, set2, set3]
            refine wpAnyH_ready (rs := [4, 15]) (by kernel_rfl) (by simp) ?_
            refine callH (some 78) rfl rfl rfl 35 _ _ rfl (fun _ _ => by go_simp) #[.int .i64 2, nmV jA3, nmV jC3] (by kernel_rfl) ?_ (allocH (some 21) rfl rfl rfl 50 rfl (nmA (lb 0)) alloc_0 (hS.alloc _) ?_ AllReadyH.nil)
            · refine (Kea.out W).mono ?_
              rintro e u ⟨rfl, hb⟩
              refine ⟨_, rfl, hS.on hb, ?_⟩
              simp only [Act.put, set1, set2, set3]
              exact key1_0.out (q20, 0) _ ⟨hS.on hb, ⟨hn0, hc0.on hb⟩⟩
            · simp only [Act.put, set1, set2, set3]
              exact key0_01.out (q20, W.heap.size) _ ⟨hS.alloc _, ⟨hn0, hc0.alloc _⟩, ⟨hS.size, Cell.new _ _ 0⟩, (fun (e : q20 = W.heap.size) => by have h : q20 < W.heap.size := hc0.lt; omega)⟩
          simp only [Act.put, set1, set2, set3] at key0_00
          have key0_0 := Lib.hid key0_00
          clear key0_00
          refine meetH (fun (x : Nat × Nat) a => (a.put (some 21) (.pointer (some ⟨x.2, 0, none⟩)))) #[true, true, true, true, false, true, false, true, true, true, true, false, true, false, false, true, false, false] 7 (fun (x : Nat × Nat) W => (Env 50 w W n3 [(q19, jdd), (q17, jaa), (q18, jbb), (q15, jsa), (q16, jsb), (q8, jA2), (q9, jC2), (q10, jA3), (q11, jC3), (g7, ja), (g6, j1), ((w.heap.size + 2), 0), ((w.heap.size + 1), jx), (w.heap.size, E)]) ∧ (n3 ≤ x.2 ∧ Cell 50 W x.2 0)) ?_ (fun key0_10 => ?_)
          · rintro ⟨q20, q21⟩ W ⟨hS, ⟨hn1, hc1⟩⟩
            simp only [Act.put, set1, set2, set3]
            refine wpAnyH_ready (rs := [4, 14]) (by kernel_rfl) (by simp) ?_
            refine callH (some 78) rfl rfl rfl 35 _ _ rfl (fun _ _ => by go_simp) #[.int .i64 2, nmV jA3, nmV jC3] (by kernel_rfl) ?_ (allocH (some 20) rfl rfl rfl 50 rfl (nmA (lb 0)) alloc_0 (hS.alloc _) ?_ AllReadyH.nil)
            · refine (Kea.out W).mono ?_
              rintro e u ⟨rfl, hb⟩
              refine ⟨_, rfl, hS.on hb, ?_⟩
              simp only [Act.put, set1, set2, set3]
              exact key1_1.out (0, q21) _ ⟨hS.on hb, ⟨hn1, hc1.on hb⟩⟩
            · simp only [Act.put, set1, set2, set3]
              exact key0_01.out (W.heap.size, q21) _ ⟨hS.alloc _, ⟨hS.size, Cell.new _ _ 0⟩, ⟨hn1, hc1.alloc _⟩, (fun (e : W.heap.size = q21) => by have h : q21 < W.heap.size := hc1.lt; omega)⟩
          simp only [Act.put, set1, set2, set3] at key0_10
          have key0_1 := Lib.hid key0_10
          clear key0_10
          refine meetH (fun (x : Nat × Nat) a => (a.put (some 78) (nmV jea))) #[true, true, true, true, true, true, false, true, true, true, true, false, true, false, false, false, false, false] 7 (fun (x : Nat × Nat) W => (Env 50 w W n3 [(q19, jdd), (q17, jaa), (q18, jbb), (q15, jsa), (q16, jsb), (q8, jA2), (q9, jC2), (q10, jA3), (q11, jC3), (g7, ja), (g6, j1), ((w.heap.size + 2), 0), ((w.heap.size + 1), jx), (w.heap.size, E)])) ?_ (fun key1_0 => ?_)
          · rintro ⟨q20, q21⟩ W hS
            simp only [Act.put, set1, set2, set3]
            refine wpAnyH_ready (rs := [6, 14, 15]) (by kernel_rfl) (by simp) ?_
            refine callH (some 80) rfl rfl rfl 36 _ _ rfl (fun _ _ => by go_simp) #[.int .i64 2, nmV jea, nmV jsa] (by kernel_rfl) ?_ (allocH (some 20) rfl rfl rfl 50 rfl (nmA (lb 0)) alloc_0 (hS.alloc _) ?_ (allocH (some 21) rfl rfl rfl 50 rfl (nmA (lb 0)) alloc_0 (hS.alloc _) ?_ AllReadyH.nil))
            · refine (Kda.out W).mono ?_
              rintro e u ⟨rfl, hb⟩
              refine ⟨_, rfl, hS.on hb, ?_⟩
              simp only [Act.put, set1, set2, set3]
              exact key2_.out (0, 0) _ (hS.on hb)
            · simp only [Act.put, set1, set2, set3]
              exact key1_0.out (W.heap.size, 0) _ ⟨hS.alloc _, ⟨hS.size, Cell.new _ _ 0⟩⟩
            · simp only [Act.put, set1, set2, set3]
              exact key1_1.out (0, W.heap.size) _ ⟨hS.alloc _, ⟨hS.size, Cell.new _ _ 0⟩⟩
          simp only [Act.put, set1, set2, set3] at key1_0
          have key1_ := Lib.hid key1_0
          clear key1_0
          refine wpAnyH_ready (rs := [4, 14, 15]) (by kernel_rfl) (by simp) ?_
          refine callH (some 78) rfl rfl rfl 35 _ _ rfl (fun _ _ => by go_simp) #[.int .i64 2, nmV jA3, nmV jC3] (by kernel_rfl) ?_ (allocH (some 20) rfl rfl rfl 50 rfl (nmA (lb 0)) alloc_0 (HSx.out.alloc _) ?_ (allocH (some 21) rfl rfl rfl 50 rfl (nmA (lb 0)) alloc_0 (HSx.out.alloc _) ?_ AllReadyH.nil))
          · refine (Kea.out wd).mono ?_
            rintro e u ⟨rfl, hb⟩
            refine ⟨_, rfl, HSx.out.on hb, ?_⟩
            simp only [Act.put, set1, set2, set3]
            exact key1_.out (0, 0) _ (HSx.out.on hb)
          · simp only [Act.put, set1, set2, set3]
            exact key0_0.out (wd.heap.size, 0) _ ⟨HSx.out.alloc _, ⟨HSx.out.size, Cell.new _ _ 0⟩⟩
          · simp only [Act.put, set1, set2, set3]
            exact key0_1.out (0, wd.heap.size) _ ⟨HSx.out.alloc _, ⟨HSx.out.size, Cell.new _ _ 0⟩⟩
        rintro ⟨q20, q21⟩ W ⟨hS, ⟨hn0, hc0⟩, ⟨hn1, hc1⟩, hd01⟩
        simp only [Act.put, set1, set2, set3]
        have HE := Lib.hid hS
        have C0 := Lib.hid hc0
        have C1 := Lib.hid hc1
        refine wpAnyH_ready (rs := [16]) (by kernel_rfl) (by simp) ?_
        refine storeH rfl rfl rfl 50 _ _ rfl q20 (nmA (lb jda)) (by kernel_rfl) (by kernel_rfl) 50 _ C0.out (by kernel_rfl) (by first | rw [nmA_size, nmA_size] | rfl) (nmA_one _) (HE.out.far _ hn0) ?_ AllReadyH.nil
        have HE := Lib.hid (HE.out.far (nmA (lb jda)) hn0)
        have C0 := Lib.hid (C0.out.put jda)
        have C1 := Lib.hid (C1.out.far (nmA (lb jda)) (fun e => hd01 e.symm))
        generalize W.setRow q20 (nmA (lb jda)) = ws0 at HE C0 C1 ⊢
        simp only [Act.put, set1, set2, set3]
        refine wpAnyH_ready (rs := [17]) (by kernel_rfl) (by simp) ?_
        refine storeH rfl rfl rfl 50 _ _ rfl q21 (nmA (lb jcb)) (by kernel_rfl) (by kernel_rfl) 50 _ C1.out (by kernel_rfl) (by first | rw [nmA_size, nmA_size] | rfl) (nmA_one _) (HE.out.far _ hn1) ?_ AllReadyH.nil
        have HE := Lib.hid (HE.out.far (nmA (lb jcb)) hn1)
        have C0 := Lib.hid (C0.out.far (nmA (lb jcb)) hd01)
        have C1 := Lib.hid (C1.out.put jcb)
        generalize ws0.setRow q21 (nmA (lb jcb)) = ws1 at HE C0 C1 ⊢
        simp only [Act.put, set1, set2, set3]
        refine wpAnyH_done (by kernel_rfl) ?_ _
        have HM := Lib.hid ((((HE.out).add (Nat.le_trans HE.out.base hn1) (HE.out.old hn1) C1.out)).add (Nat.le_trans HE.out.base hn0) (new_cons (HE.out.old hn0) hd01) C0.out)
        clear HE C0 hn0 hc0 C1 hn1 hc1 hd01
        generalize ws1.heap.size = n4 at HM
        generalize ws1 = wz at HM ⊢
        go_upto_region 18 with (fail)
        have hSd := HM.out.drew
        clear HM
        refine wp_region_held (S := fun u => Env 50 w u n4 [(q20, jda), (q21, jcb), (q19, jdd), (q17, jaa), (q18, jbb), (q15, jsa), (q16, jsb), (q8, jA2), (q9, jC2), (q10, jA3), (q11, jC3), (g7, ja), (g6, j1), ((w.heap.size + 2), 0), ((w.heap.size + 1), jx), (w.heap.size, E)]) (by kernel_rfl) ?_
        change wpAnyH _ _ _ _ _ _ _ _ wz.drew
        have HSx := Lib.hid hSd
        clear hSd
        generalize wz.drew = wd at HSx ⊢
        refine takeH (i := 0) (some 88) (.int .i64 2) rfl rfl rfl (by kernel_rfl) (by kernel_rfl) (by kernel_rfl) (fun _ _ _ h => h) (fun w _ => by go_simp) HSx.out ?_
        simp only [Act.put, set1, set2, set3]
        refine takeH (i := 1) (some 89) (.agg (nmA (lb jda))) rfl rfl rfl (by kernel_rfl) (by kernel_rfl) (by kernel_rfl) (fun _ _ _ h => h) (load_row 50 _ rfl q20 (by kernel_rfl) 50 (nmA (lb jda)) (0, 0) _ Try.underlying50 rfl (by kernel_rfl) (fun w h => h.get 0 rfl)) HSx.out ?_
        simp only [Act.put, set1, set2, set3]
        refine takeH (i := 2) (some 90) (.agg (nmA (lb jcb))) rfl rfl rfl (by kernel_rfl) (by kernel_rfl) (by kernel_rfl) (fun _ _ _ h => h) (load_row 50 _ rfl q21 (by kernel_rfl) 50 (nmA (lb jcb)) (0, 0) _ Try.underlying50 rfl (by kernel_rfl) (fun w h => h.get 1 rfl)) HSx.out ?_
        simp only [Act.put, set1, set2, set3]
        refine takeH (i := 4) (some 92) (.int .i64 2) rfl rfl rfl (by kernel_rfl) (by kernel_rfl) (by kernel_rfl) (fun _ _ _ h => h) (fun w _ => by go_simp) HSx.out ?_
        simp only [Act.put, set1, set2, set3]
        refine takeH (i := 5) (some 93) (.agg (nmA (lb jda))) rfl rfl rfl (by kernel_rfl) (by kernel_rfl) (by kernel_rfl) (fun _ _ _ h => h) (load_row 50 _ rfl q20 (by kernel_rfl) 50 (nmA (lb jda)) (0, 0) _ Try.underlying50 rfl (by kernel_rfl) (fun w h => h.get 0 rfl)) HSx.out ?_
        simp only [Act.put, set1, set2, set3]
        refine takeH (i := 6) (some 94) (.agg (nmA (lb jcb))) rfl rfl rfl (by kernel_rfl) (by kernel_rfl) (by kernel_rfl) (fun _ _ _ h => h) (load_row 50 _ rfl q21 (by kernel_rfl) 50 (nmA (lb jcb)) (0, 0) _ Try.underlying50 rfl (by kernel_rfl) (fun w h => h.get 1 rfl)) HSx.out ?_
        simp only [Act.put, set1, set2, set3]
        refine meetH (fun (x : Nat × Nat) a => ((((a.put (some 91) (nmV jst)).put (some 95) (nmV jmt)).put (some 22) (.pointer (some ⟨x.1, 0, none⟩))).put (some 23) (.pointer (some ⟨x.2, 0, none⟩)))) #[true, true, true, true, true, true, true, true, true, true, false, false] 2 (fun (x : Nat × Nat) W => (Env 50 w W n4 [(q20, jda), (q21, jcb), (q19, jdd), (q17, jaa), (q18, jbb), (q15, jsa), (q16, jsb), (q8, jA2), (q9, jC2), (q10, jA3), (q11, jC3), (g7, ja), (g6, j1), ((w.heap.size + 2), 0), ((w.heap.size + 1), jx), (w.heap.size, E)]) ∧ (n4 ≤ x.1 ∧ Cell 50 W x.1 0) ∧ (n4 ≤ x.2 ∧ Cell 50 W x.2 0) ∧ (¬ x.1 = x.2)) ?_ (fun key2_010 => ?_)
        rotate_left
        · simp only [Act.put, set1, set2, set3] at key2_010
          have key2_01 := Lib.hid key2_010
          clear key2_010
          refine meetH (fun (x : Nat × Nat) a => (((a.put (some 91) (nmV jst)).put (some 22) (.pointer (some ⟨x.1, 0, none⟩))).put (some 23) (.pointer (some ⟨x.2, 0, none⟩)))) #[true, true, true, true, true, true, true, false, true, true, false, false] 3 (fun (x : Nat × Nat) W => (Env 50 w W n4 [(q20, jda), (q21, jcb), (q19, jdd), (q17, jaa), (q18, jbb), (q15, jsa), (q16, jsb), (q8, jA2), (q9, jC2), (q10, jA3), (q11, jC3), (g7, ja), (g6, j1), ((w.heap.size + 2), 0), ((w.heap.size + 1), jx), (w.heap.size, E)]) ∧ (n4 ≤ x.1 ∧ Cell 50 W x.1 0) ∧ (n4 ≤ x.2 ∧ Cell 50 W x.2 0) ∧ (¬ x.1 = x.2)) ?_ (fun key1_010 => ?_)
          · rintro ⟨q22, q23⟩ W ⟨hS, ⟨hn0, hc0⟩, ⟨hn1, hc1⟩, hd01⟩
            simp only [Act.put, set1, set2, set3]
            refine wpAnyH_ready (rs := [7]) (by kernel_rfl) (by simp) ?_
            refine callH (some 95) rfl rfl rfl 35 _ _ rfl (fun _ _ => by go_simp) #[.int .i64 2, nmV jda, nmV jcb] (by kernel_rfl) ?_ AllReadyH.nil
            · refine (Kmt.out W).mono ?_
              rintro e u ⟨rfl, hb⟩
              refine ⟨_, rfl, hS.on hb, ?_⟩
              simp only [Act.put, set1, set2, set3]
              exact key2_01.out (q22, q23) _ ⟨hS.on hb, ⟨hn0, hc0.on hb⟩, ⟨hn1, hc1.on hb⟩, hd01⟩
          simp only [Act.put, set1, set2, set3] at key1_010
          have key1_01 := Lib.hid key1_010
          clear key1_010
          refine meetH (fun (x : Nat × Nat) a => (((a.put (some 91) (nmV jst)).put (some 95) (nmV jmt)).put (some 22) (.pointer (some ⟨x.1, 0, none⟩)))) #[true, true, true, true, true, true, true, true, true, false, false, false] 3 (fun (x : Nat × Nat) W => (Env 50 w W n4 [(q20, jda), (q21, jcb), (q19, jdd), (q17, jaa), (q18, jbb), (q15, jsa), (q16, jsb), (q8, jA2), (q9, jC2), (q10, jA3), (q11, jC3), (g7, ja), (g6, j1), ((w.heap.size + 2), 0), ((w.heap.size + 1), jx), (w.heap.size, E)]) ∧ (n4 ≤ x.1 ∧ Cell 50 W x.1 0)) ?_ (fun key2_00 => ?_)
          · rintro ⟨q22, q23⟩ W ⟨hS, ⟨hn0, hc0⟩⟩
            simp only [Act.put, set1, set2, set3]
            refine wpAnyH_ready (rs := [9]) (by kernel_rfl) (by simp) ?_
            refine allocH (some 23) rfl rfl rfl 50 rfl (nmA (lb 0)) alloc_0 (hS.alloc _) ?_ AllReadyH.nil
            · simp only [Act.put, set1, set2, set3]
              exact key2_01.out (q22, W.heap.size) _ ⟨hS.alloc _, ⟨hn0, hc0.alloc _⟩, ⟨hS.size, Cell.new _ _ 0⟩, (fun (e : q22 = W.heap.size) => by have h : q22 < W.heap.size := hc0.lt; omega)⟩
          simp only [Act.put, set1, set2, set3] at key2_00
          have key2_0 := Lib.hid key2_00
          clear key2_00
          refine meetH (fun (x : Nat × Nat) a => (((a.put (some 91) (nmV jst)).put (some 95) (nmV jmt)).put (some 23) (.pointer (some ⟨x.2, 0, none⟩)))) #[true, true, true, true, true, true, true, true, false, true, false, false] 3 (fun (x : Nat × Nat) W => (Env 50 w W n4 [(q20, jda), (q21, jcb), (q19, jdd), (q17, jaa), (q18, jbb), (q15, jsa), (q16, jsb), (q8, jA2), (q9, jC2), (q10, jA3), (q11, jC3), (g7, ja), (g6, j1), ((w.heap.size + 2), 0), ((w.heap.size + 1), jx), (w.heap.size, E)]) ∧ (n4 ≤ x.2 ∧ Cell 50 W x.2 0)) ?_ (fun key2_10 => ?_)
          · rintro ⟨q22, q23⟩ W ⟨hS, ⟨hn1, hc1⟩⟩
            simp only [Act.put, set1, set2, set3]
            refine wpAnyH_ready (rs := [8]) (by kernel_rfl) (by simp) ?_
            refine allocH (some 22) rfl rfl rfl 50 rfl (nmA (lb 0)) alloc_0 (hS.alloc _) ?_ AllReadyH.nil
            · simp only [Act.put, set1, set2, set3]
              exact key2_01.out (W.heap.size, q23) _ ⟨hS.alloc _, ⟨hS.size, Cell.new _ _ 0⟩, ⟨hn1, hc1.alloc _⟩, (fun (e : W.heap.size = q23) => by have h : q23 < W.heap.size := hc1.lt; omega)⟩
          simp only [Act.put, set1, set2, set3] at key2_10
          have key2_1 := Lib.hid key2_10
          clear key2_10
          refine meetH (fun (x : Nat × Nat) a => ((a.put (some 22) (.pointer (some ⟨x.1, 0, none⟩))).put (some 23) (.pointer (some ⟨x.2, 0, none⟩)))) #[true, true, true, false, true, true, true, false, true, true, false, false] 4 (fun (x : Nat × Nat) W => (Env 50 w W n4 [(q20, jda), (q21, jcb), (q19, jdd), (q17, jaa), (q18, jbb), (q15, jsa), (q16, jsb), (q8, jA2), (q9, jC2), (q10, jA3), (q11, jC3), (g7, ja), (g6, j1), ((w.heap.size + 2), 0), ((w.heap.size + 1), jx), (w.heap.size, E)]) ∧ (n4 ≤ x.1 ∧ Cell 50 W x.1 0) ∧ (n4 ≤ x.2 ∧ Cell 50 W x.2 0) ∧ (¬ x.1 = x.2)) ?_ (fun key0_010 => ?_)
          · rintro ⟨q22, q23⟩ W ⟨hS, ⟨hn0, hc0⟩, ⟨hn1, hc1⟩, hd01⟩
            simp only [Act.put, set1, set2, set3]
            refine wpAnyH_ready (rs := [3]) (by kernel_rfl) (by simp) ?_
            refine callH (some 91) rfl rfl rfl 34 _ _ rfl (fun _ _ => by go_simp) #[.int .i64 2, nmV jda, nmV jcb] (by kernel_rfl) ?_ AllReadyH.nil
            · refine (Kst.out W).mono ?_
              rintro e u ⟨rfl, hb⟩
              refine ⟨_, rfl, hS.on hb, ?_⟩
              simp only [Act.put, set1, set2, set3]
              exact key1_01.out (q22, q23) _ ⟨hS.on hb, ⟨hn0, hc0.on hb⟩, ⟨hn1, hc1.on hb⟩, hd01⟩
          simp only [Act.put, set1, set2, set3] at key0_010
          have key0_01 := Lib.hid key0_010
          clear key0_010
          refine meetH (fun (x : Nat × Nat) a => ((a.put (some 91) (nmV jst)).put (some 22) (.pointer (some ⟨x.1, 0, none⟩)))) #[true, true, true, true, true, true, true, false, true, false, false, false] 4 (fun (x : Nat × Nat) W => (Env 50 w W n4 [(q20, jda), (q21, jcb), (q19, jdd), (q17, jaa), (q18, jbb), (q15, jsa), (q16, jsb), (q8, jA2), (q9, jC2), (q10, jA3), (q11, jC3), (g7, ja), (g6, j1), ((w.heap.size + 2), 0), ((w.heap.size + 1), jx), (w.heap.size, E)]) ∧ (n4 ≤ x.1 ∧ Cell 50 W x.1 0)) ?_ (fun key1_00 => ?_)
          · rintro ⟨q22, q23⟩ W ⟨hS, ⟨hn0, hc0⟩⟩
            simp only [Act.put, set1, set2, set3]
            refine wpAnyH_ready (rs := [7, 9]) (by kernel_rfl) (by simp) ?_
            refine callH (some 95) rfl rfl rfl 35 _ _ rfl (fun _ _ => by go_simp) #[.int .i64 2, nmV jda, nmV jcb] (by kernel_rfl) ?_ (allocH (some 23) rfl rfl rfl 50 rfl (nmA (lb 0)) alloc_0 (hS.alloc _) ?_ AllReadyH.nil)
            · refine (Kmt.out W).mono ?_
              rintro e u ⟨rfl, hb⟩
              refine ⟨_, rfl, hS.on hb, ?_⟩
              simp only [Act.put, set1, set2, set3]
              exact key2_0.out (q22, 0) _ ⟨hS.on hb, ⟨hn0, hc0.on hb⟩⟩
            · simp only [Act.put, set1, set2, set3]
              exact key1_01.out (q22, W.heap.size) _ ⟨hS.alloc _, ⟨hn0, hc0.alloc _⟩, ⟨hS.size, Cell.new _ _ 0⟩, (fun (e : q22 = W.heap.size) => by have h : q22 < W.heap.size := hc0.lt; omega)⟩
          simp only [Act.put, set1, set2, set3] at key1_00
          have key1_0 := Lib.hid key1_00
          clear key1_00
          refine meetH (fun (x : Nat × Nat) a => ((a.put (some 91) (nmV jst)).put (some 23) (.pointer (some ⟨x.2, 0, none⟩)))) #[true, true, true, true, true, true, true, false, false, true, false, false] 4 (fun (x : Nat × Nat) W => (Env 50 w W n4 [(q20, jda), (q21, jcb), (q19, jdd), (q17, jaa), (q18, jbb), (q15, jsa), (q16, jsb), (q8, jA2), (q9, jC2), (q10, jA3), (q11, jC3), (g7, ja), (g6, j1), ((w.heap.size + 2), 0), ((w.heap.size + 1), jx), (w.heap.size, E)]) ∧ (n4 ≤ x.2 ∧ Cell 50 W x.2 0)) ?_ (fun key1_10 => ?_)
          · rintro ⟨q22, q23⟩ W ⟨hS, ⟨hn1, hc1⟩⟩
            simp only [Act.put, set1, set2, set3]
            refine wpAnyH_ready (rs := [7, 8]) (by kernel_rfl) (by simp) ?_
            refine callH (some 95) rfl rfl rfl 35 _ _ rfl (fun _ _ => by go_simp) #[.int .i64 2, nmV jda, nmV jcb] (by kernel_rfl) ?_ (allocH (some 22) rfl rfl rfl 50 rfl (nmA (lb 0)) alloc_0 (hS.alloc _) ?_ AllReadyH.nil)
            · refine (Kmt.out W).mono ?_
              rintro e u ⟨rfl, hb⟩
              refine ⟨_, rfl, hS.on hb, ?_⟩
              simp only [Act.put, set1, set2, set3]
              exact key2_1.out (0, q23) _ ⟨hS.on hb, ⟨hn1, hc1.on hb⟩⟩
            · simp only [Act.put, set1, set2, set3]
              exact key1_01.out (W.heap.size, q23) _ ⟨hS.alloc _, ⟨hS.size, Cell.new _ _ 0⟩, ⟨hn1, hc1.alloc _⟩, (fun (e : W.heap.size = q23) => by have h : q23 < W.heap.size := hc1.lt; omega)⟩
          simp only [Act.put, set1, set2, set3] at key1_10
          have key1_1 := Lib.hid key1_10
          clear key1_10
          refine meetH (fun (x : Nat × Nat) a => ((a.put (some 91) (nmV jst)).put (some 95) (nmV jmt))) #[true, true, true, true, true, true, true, true, false, false, false, false] 4 (fun (x : Nat × Nat) W => (Env 50 w W n4 [(q20, jda), (q21, jcb), (q19, jdd), (q17, jaa), (q18, jbb), (q15, jsa), (q16, jsb), (q8, jA2), (q9, jC2), (q10, jA3), (q11, jC3), (g7, ja), (g6, j1), ((w.heap.size + 2), 0), ((w.heap.size + 1), jx), (w.heap.size, E)])) ?_ (fun key2_0 => ?_)
          · rintro ⟨q22, q23⟩ W hS
            simp only [Act.put, set1, set2, set3]
            refine wpAnyH_ready (rs := [8, 9]) (by kernel_rfl) (by simp) ?_
            refine allocH (some 22) rfl rfl rfl 50 rfl (nmA (lb 0)) alloc_0 (hS.alloc _) ?_ (allocH (some 23) rfl rfl rfl 50 rfl (nmA (lb 0)) alloc_0 (hS.alloc _) ?_ AllReadyH.nil)
            · simp only [Act.put, set1, set2, set3]
              exact key2_0.out (W.heap.size, 0) _ ⟨hS.alloc _, ⟨hS.size, Cell.new _ _ 0⟩⟩
            · simp only [Act.put, set1, set2, set3]
              exact key2_1.out (0, W.heap.size) _ ⟨hS.alloc _, ⟨hS.size, Cell.new _ _ 0⟩⟩
          simp only [Act.put, set1, set2, set3] at key2_0
          have key2_ := Lib.hid key2_0
          clear key2_0
          refine meetH (fun (x : Nat × Nat) a => (a.put (some 22) (.pointer (some ⟨x.1, 0, none⟩)))) #[true, true, true, false, true, true, true, false, true, false, false, false] 5 (fun (x : Nat × Nat) W => (Env 50 w W n4 [(q20, jda), (q21, jcb), (q19, jdd), (q17, jaa), (q18, jbb), (q15, jsa), (q16, jsb), (q8, jA2), (q9, jC2), (q10, jA3), (q11, jC3), (g7, ja), (g6, j1), ((w.heap.size + 2), 0), ((w.heap.size + 1), jx), (w.heap.size, E)]) ∧ (n4 ≤ x.1 ∧ Cell 50 W x.1 0)) ?_ (fun key0_00 => ?_)
          · rintro ⟨q22, q23⟩ W ⟨hS, ⟨hn0, hc0⟩⟩
            simp only [Act.put, set1, set2, set3]
            refine wpAnyH_ready (rs := [3, 9]) (by kernel_rfl) (by simp) ?_
            refine callH (some 91) rfl rfl rfl 34 _ _ rfl (fun _ _ => by go_simp) #[.int .i64 2, nmV jda, nmV jcb] (by kernel_rfl) ?_ (allocH (some 23) rfl rfl rfl 50 rfl (nmA (lb 0)) alloc_0 (hS.alloc _) ?_ AllReadyH.nil)
            · refine (Kst.out W).mono ?_
              rintro e u ⟨rfl, hb⟩
              refine ⟨_, rfl, hS.on hb, ?_⟩
              simp only [Act.put, set1, set2, set3]
              exact key1_0.out (q22, 0) _ ⟨hS.on hb, ⟨hn0, hc0.on hb⟩⟩
            · simp only [Act.put, set1, set2, set3]
              exact key0_01.out (q22, W.heap.size) _ ⟨hS.alloc _, ⟨hn0, hc0.alloc _⟩, ⟨hS.size, Cell.new _ _ 0⟩, (fun (e : q22 = W.heap.size) => by have h : q22 < W.heap.size := hc0.lt; omega)⟩
          simp only [Act.put, set1, set2, set3] at key0_00
          have key0_0 := Lib.hid key0_00
          clear key0_00
          refine meetH (fun (x : Nat × Nat) a => (a.put (some 23) (.pointer (some ⟨x.2, 0, none⟩)))) #[true, true, true, false, true, true, true, false, false, true, false, false] 5 (fun (x : Nat × Nat) W => (Env 50 w W n4 [(q20, jda), (q21, jcb), (q19, jdd), (q17, jaa), (q18, jbb), (q15, jsa), (q16, jsb), (q8, jA2), (q9, jC2), (q10, jA3), (q11, jC3), (g7, ja), (g6, j1), ((w.heap.size + 2), 0), ((w.heap.size + 1), jx), (w.heap.size, E)]) ∧ (n4 ≤ x.2 ∧ Cell 50 W x.2 0)) ?_ (fun key0_10 => ?_)
          · rintro ⟨q22, q23⟩ W ⟨hS, ⟨hn1, hc1⟩⟩
            simp only [Act.put, set1, set2, set3]
            refine wpAnyH_ready (rs := [3, 8]) (by kernel_rfl) (by simp) ?_
            refine callH (some 91) rfl rfl rfl 34 _ _ rfl (fun _ _ => by go_simp) #[.int .i64 2, nmV jda, nmV jcb] (by kernel_rfl) ?_ (allocH (some 22) rfl rfl rfl 50 rfl (nmA (lb 0)) alloc_0 (hS.alloc _) ?_ AllReadyH.nil)
            · refine (Kst.out W).mono ?_
              rintro e u ⟨rfl, hb⟩
              refine ⟨_, rfl, hS.on hb, ?_⟩
              simp only [Act.put, set1, set2, set3]
              exact key1_1.out (0, q23) _ ⟨hS.on hb, ⟨hn1, hc1.on hb⟩⟩
            · simp only [Act.put, set1, set2, set3]
              exact key0_01.out (W.heap.size, q23) _ ⟨hS.alloc _, ⟨hS.size, Cell.new _ _ 0⟩, ⟨hn1, hc1.alloc _⟩, (fun (e : W.heap.size = q23) => by have h : q23 < W.heap.size := hc1.lt; omega)⟩
          simp only [Act.put, set1, set2, set3] at key0_10
          have key0_1 := Lib.hid key0_10
          clear key0_10
          refine meetH (fun (x : Nat × Nat) a => (a.put (some 91) (nmV jst))) #[true, true, true, true, true, true, true, false, false, false, false, false] 5 (fun (x : Nat × Nat) W => (Env 50 w W n4 [(q20, jda), (q21, jcb), (q19, jdd), (q17, jaa), (q18, jbb), (q15, jsa), (q16, jsb), (q8, jA2), (q9, jC2), (q10, jA3), (q11, jC3), (g7, ja), (g6, j1), ((w.heap.size + 2), 0), ((w.heap.size + 1), jx), (w.heap.size, E)])) ?_ (fun key1_0 => ?_)
          · rintro ⟨q22, q23⟩ W hS
            simp only [Act.put, set1, set2, set3]
            refine wpAnyH_ready (rs := [7, 8, 9]) (by kernel_rfl) (by simp) ?_
            refine callH (some 95) rfl rfl rfl 35 _ _ rfl (fun _ _ => by go_simp) #[.int .i64 2, nmV jda, nmV jcb] (by kernel_rfl) ?_ (allocH (some 22) rfl rfl rfl 50 rfl (nmA (lb 0)) alloc_0 (hS.alloc _) ?_ (allocH (some 23) rfl rfl rfl 50 rfl (nmA (lb 0)) alloc_0 (hS.alloc _) ?_ AllReadyH.nil))
            · refine (Kmt.out W).mono ?_
              rintro e u ⟨rfl, hb⟩
              refine ⟨_, rfl, hS.on hb, ?_⟩
              simp only [Act.put, set1, set2, set3]
              exact key2_.out (0, 0) _ (hS.on hb)
            · simp only [Act.put, set1, set2, set3]
              exact key1_0.out (W.heap.size, 0) _ ⟨hS.alloc _, ⟨hS.size, Cell.new _ _ 0⟩⟩
            · simp only [Act.put, set1, set2, set3]
              exact key1_1.out (0, W.heap.size) _ ⟨hS.alloc _, ⟨hS.size, Cell.new _ _ 0⟩⟩
          simp only [Act.put, set1, set2, set3] at key1_0
          have key1_ := Lib.hid key1_0
          clear key1_0
          refine wpAnyH_ready (rs := [3, 8, 9]) (by kernel_rfl) (by simp) ?_
          refine callH (some 91) rfl rfl rfl 34 _ _ rfl (fun _ _ => by go_simp) #[.int .i64 2, nmV jda, nmV jcb] (by kernel_rfl) ?_ (allocH (some 22) rfl rfl rfl 50 rfl (nmA (lb 0)) alloc_0 (HSx.out.alloc _) ?_ (allocH (some 23) rfl rfl rfl 50 rfl (nmA (lb 0)) alloc_0 (HSx.out.alloc _) ?_ AllReadyH.nil))
          · refine (Kst.out wd).mono ?_
            rintro e u ⟨rfl, hb⟩
            refine ⟨_, rfl, HSx.out.on hb, ?_⟩
            simp only [Act.put, set1, set2, set3]
            exact key1_.out (0, 0) _ (HSx.out.on hb)
          · simp only [Act.put, set1, set2, set3]
            exact key0_0.out (wd.heap.size, 0) _ ⟨HSx.out.alloc _, ⟨HSx.out.size, Cell.new _ _ 0⟩⟩
          · simp only [Act.put, set1, set2, set3]
            exact key0_1.out (0, wd.heap.size) _ ⟨HSx.out.alloc _, ⟨HSx.out.size, Cell.new _ _ 0⟩⟩
        rintro ⟨q22, q23⟩ W ⟨hS, ⟨hn0, hc0⟩, ⟨hn1, hc1⟩, hd01⟩
        simp only [Act.put, set1, set2, set3]
        have HE := Lib.hid hS
        have C0 := Lib.hid hc0
        have C1 := Lib.hid hc1
        refine wpAnyH_ready (rs := [10]) (by kernel_rfl) (by simp) ?_
        refine storeH rfl rfl rfl 50 _ _ rfl q22 (nmA (lb jst)) (by kernel_rfl) (by kernel_rfl) 50 _ C0.out (by kernel_rfl) (by first | rw [nmA_size, nmA_size] | rfl) (nmA_one _) (HE.out.far _ hn0) ?_ AllReadyH.nil
        have HE := Lib.hid (HE.out.far (nmA (lb jst)) hn0)
        have C0 := Lib.hid (C0.out.put jst)
        have C1 := Lib.hid (C1.out.far (nmA (lb jst)) (fun e => hd01 e.symm))
        generalize W.setRow q22 (nmA (lb jst)) = ws0 at HE C0 C1 ⊢
        simp only [Act.put, set1, set2, set3]
        refine wpAnyH_ready (rs := [11]) (by kernel_rfl) (by simp) ?_
        refine storeH rfl rfl rfl 50 _ _ rfl q23 (nmA (lb jmt)) (by kernel_rfl) (by kernel_rfl) 50 _ C1.out (by kernel_rfl) (by first | rw [nmA_size, nmA_size] | rfl) (nmA_one _) (HE.out.far _ hn1) ?_ AllReadyH.nil
        have HE := Lib.hid (HE.out.far (nmA (lb jmt)) hn1)
        have C0 := Lib.hid (C0.out.far (nmA (lb jmt)) hd01)
        have C1 := Lib.hid (C1.out.put jmt)
        generalize ws0.setRow q23 (nmA (lb jmt)) = ws1 at HE C0 C1 ⊢
        simp only [Act.put, set1, set2, set3]
        refine wpAnyH_done (by kernel_rfl) ?_ _
        have HM := Lib.hid ((((HE.out).add (Nat.le_trans HE.out.base hn1) (HE.out.old hn1) C1.out)).add (Nat.le_trans HE.out.base hn0) (new_cons (HE.out.old hn0) hd01) C0.out)
        clear HE C0 hn0 hc0 C1 hn1 hc1 hd01
        generalize ws1.heap.size = n5 at HM
        generalize ws1 = wz at HM ⊢
        go_upto_region 19 with (fail)
        apply wp_region_lit
        refine Lw.wpList_val rfl (.int .i64 2) wz (by go_simp) ?_
        refine wpList_load_row rfl 50 _ rfl q22 (by kernel_rfl) 50 (nmA (lb jst)) (0, 0) _ (HM.out.get 0 rfl) Try.underlying50 rfl (by kernel_rfl) ?_
        refine wpList_load_row rfl 50 _ rfl q22 (by kernel_rfl) 50 (nmA (lb jst)) (0, 0) _ (HM.out.get 0 rfl) Try.underlying50 rfl (by kernel_rfl) ?_
        simp only [Act.put, set1, set2, set3]
        refine Lw.wpList_callTo (some 99) rfl rfl 36 _ _ rfl (fun _ _ => by go_simp) #[.int .i64 2, nmV jst, nmV jst] (by kernel_rfl) ?_
        refine (Kss.out wz).mono ?_
        rintro e ul ⟨rfl, hb⟩
        refine ⟨_, rfl, ?_⟩
        have HM := Lib.hid (HM.out.on hb)
        clear hb
        simp only [Act.put, set1, set2, set3]
        have hput : Env 50 w (ul.setRow q10 (nmA (lb jss))) n5 [(q22, jst), (q23, jmt), (q20, jda), (q21, jcb), (q19, jdd), (q17, jaa), (q18, jbb), (q15, jsa), (q16, jsb), (q8, jA2), (q9, jC2), (q10, jss), (q11, jC3), (g7, ja), (g6, j1), ((w.heap.size + 2), 0), ((w.heap.size + 1), jx), (w.heap.size, E)] := HM.out.put 11 (x := jA3) rfl jss
        refine wpList_store_row rfl 50 _ _ rfl q10 (nmA (lb jss)) (by kernel_rfl) (by kernel_rfl) 50 _ (HM.out.get 11 rfl) (by kernel_rfl) (by first | rw [nmA_size, nmA_size] | rfl) (nmA_one _) ?_
        have HM := Lib.hid hput
        clear hput
        generalize ul.setRow q10 (nmA (lb jss)) = wl at HM ⊢
        simp only [Act.put]
        go_upto_region 20 with (fail)
        have hSd := HM.out.drew
        clear HM
        refine wp_region_held (S := fun u => ∃ y12 : Nat, Env 50 w u n5 [(q22, jst), (q23, jmt), (q20, jda), (q21, jcb), (q19, jdd), (q17, jaa), (q18, jbb), (q15, jsa), (q16, jsb), (q8, jA2), (q9, jC2), (q10, jss), (q11, y12), (g7, ja), (g6, j1), ((w.heap.size + 2), 0), ((w.heap.size + 1), jx), (w.heap.size, E)]) (by kernel_rfl) ?_
        change wpAnyH _ _ _ _ _ _ _ _ wl.drew
        have HX := Lib.hid hSd
        have HSx : Hid ((fun u => ∃ y12 : Nat, Env 50 w u n5 [(q22, jst), (q23, jmt), (q20, jda), (q21, jcb), (q19, jdd), (q17, jaa), (q18, jbb), (q15, jsa), (q16, jsb), (q8, jA2), (q9, jC2), (q10, jss), (q11, y12), (g7, ja), (g6, j1), ((w.heap.size + 2), 0), ((w.heap.size + 1), jx), (w.heap.size, E)]) wl.drew) := ⟨jC3, hSd⟩
        clear hSd
        generalize wl.drew = wd at HX HSx ⊢
        refine takeH (i := 0) (some 100) (.int .i64 2) rfl rfl rfl (by kernel_rfl) (by kernel_rfl) (by kernel_rfl) (fun _ _ _ h => h) (fun w _ => by go_simp) HSx.out ?_
        simp only [Act.put, set1, set2, set3]
        refine takeH (i := 1) (some 101) (.agg (nmA (lb jx))) rfl rfl rfl (by kernel_rfl) (by kernel_rfl) (by kernel_rfl) (fun _ _ _ h => h) (load_row 50 _ rfl (w.heap.size + 1) (by kernel_rfl) 50 (nmA (lb jx)) (0, 0) _ Try.underlying50 rfl (by kernel_rfl) (fun w h => by obtain ⟨y12, h⟩ := h; exact h.get 16 rfl)) HSx.out ?_
        simp only [Act.put, set1, set2, set3]
        refine takeH (i := 2) (some 102) (.int .i64 2) rfl rfl rfl (by kernel_rfl) (by kernel_rfl) (by kernel_rfl) (fun _ _ _ h => h) (fun w _ => by go_simp) HSx.out ?_
        simp only [Act.put, set1, set2, set3]
        refine takeH (i := 3) (some 103) (.agg (nmA (lb jmt))) rfl rfl rfl (by kernel_rfl) (by kernel_rfl) (by kernel_rfl) (fun _ _ _ h => h) (load_row 50 _ rfl q23 (by kernel_rfl) 50 (nmA (lb jmt)) (0, 0) _ Try.underlying50 rfl (by kernel_rfl) (fun w h => by obtain ⟨y12, h⟩ := h; exact h.get 1 rfl)) HSx.out ?_
        simp only [Act.put, set1, set2, set3]
        refine takeH (i := 4) (some 104) (.agg (nmA (lb jmt))) rfl rfl rfl (by kernel_rfl) (by kernel_rfl) (by kernel_rfl) (fun _ _ _ h => h) (load_row 50 _ rfl q23 (by kernel_rfl) 50 (nmA (lb jmt)) (0, 0) _ Try.underlying50 rfl (by kernel_rfl) (fun w h => by obtain ⟨y12, h⟩ := h; exact h.get 1 rfl)) HSx.out ?_
        simp only [Act.put, set1, set2, set3]
        refine wpAnyH_ready (rs := [5]) (by kernel_rfl) (by simp) ?_
        refine callH (some 105) rfl rfl rfl 36 _ _ rfl (fun _ _ => by go_simp) #[.int .i64 2, nmV jmt, nmV jmt] (by kernel_rfl) ?_ AllReadyH.nil
        refine (Kmm.out wd).mono ?_
        rintro e uc0 ⟨rfl, hb⟩
        have HX := Lib.hid (HX.out.on hb)
        refine ⟨_, rfl, ⟨jC3, HX.out⟩, ?_⟩
        clear hb
        simp only [Act.put, set1, set2, set3]
        refine wpAnyH_ready (rs := [6]) (by kernel_rfl) (by simp) ?_
        refine callH (some 106) rfl rfl rfl 36 _ _ rfl (fun _ _ => by go_simp) #[.int .i64 2, nmV jx, nmV jmm] (by kernel_rfl) ?_ AllReadyH.nil
        refine (Kz3.out uc0).mono ?_
        rintro e uc1 ⟨rfl, hb⟩
        have HX := Lib.hid (HX.out.on hb)
        refine ⟨_, rfl, ⟨jC3, HX.out⟩, ?_⟩
        clear hb
        simp only [Act.put, set1, set2, set3]
        have hput : Env 50 w (uc1.setRow q11 (nmA (lb jz3))) n5 [(q22, jst), (q23, jmt), (q20, jda), (q21, jcb), (q19, jdd), (q17, jaa), (q18, jbb), (q15, jsa), (q16, jsb), (q8, jA2), (q9, jC2), (q10, jss), (q11, jz3), (g7, ja), (g6, j1), ((w.heap.size + 2), 0), ((w.heap.size + 1), jx), (w.heap.size, E)] := HX.out.put 12 (x := jC3) rfl jz3
        refine wpAnyH_ready (rs := [7]) (by kernel_rfl) (by simp) ?_
        refine storeH rfl rfl rfl 50 _ _ rfl q11 (nmA (lb jz3)) (by kernel_rfl) (by kernel_rfl) 50 _ (HX.out.get 12 rfl) (by kernel_rfl) (by first | rw [nmA_size, nmA_size] | rfl) (nmA_one _) ⟨jz3, hput⟩ ?_ AllReadyH.nil
        have HX := Lib.hid hput
        clear hput
        generalize uc1.setRow q11 (nmA (lb jz3)) = ws0 at HX ⊢
        simp only [Act.put]
        refine wpAnyH_done (by kernel_rfl) ?_ _
        have HM := HX
        clear HX HSx
        generalize ws0 = wz at HM ⊢
        go_upto_region 21 with (fail)
        apply wp_region_lit
        refine Lw.wpList_val rfl (.int .i64 2) wz (by go_simp) ?_
        refine wpList_load_row rfl 50 _ rfl q17 (by kernel_rfl) 50 (nmA (lb jaa)) (0, 0) _ (HM.out.get 5 rfl) Try.underlying50 rfl (by kernel_rfl) ?_
        refine wpList_load_row rfl 50 _ rfl q18 (by kernel_rfl) 50 (nmA (lb jbb)) (0, 0) _ (HM.out.get 6 rfl) Try.underlying50 rfl (by kernel_rfl) ?_
        simp only [Act.put, set1, set2, set3]
        refine Lw.wpList_callTo (some 110) rfl rfl 36 _ _ rfl (fun _ _ => by go_simp) #[.int .i64 2, nmV jaa, nmV jbb] (by kernel_rfl) ?_
        refine (Kx2.out wz).mono ?_
        rintro e ul ⟨rfl, hb⟩
        refine ⟨_, rfl, ?_⟩
        have HM := Lib.hid (HM.out.on hb)
        clear hb
        simp only [Act.put, set1, set2, set3]
        have hput : Env 50 w (ul.setRow q8 (nmA (lb jx2))) n5 [(q22, jst), (q23, jmt), (q20, jda), (q21, jcb), (q19, jdd), (q17, jaa), (q18, jbb), (q15, jsa), (q16, jsb), (q8, jx2), (q9, jC2), (q10, jss), (q11, jz3), (g7, ja), (g6, j1), ((w.heap.size + 2), 0), ((w.heap.size + 1), jx), (w.heap.size, E)] := HM.out.put 9 (x := jA2) rfl jx2
        refine wpList_store_row rfl 50 _ _ rfl q8 (nmA (lb jx2)) (by kernel_rfl) (by kernel_rfl) 50 _ (HM.out.get 9 rfl) (by kernel_rfl) (by first | rw [nmA_size, nmA_size] | rfl) (nmA_one _) ?_
        have HM := Lib.hid hput
        clear hput
        generalize ul.setRow q8 (nmA (lb jx2)) = wl at HM ⊢
        simp only [Act.put]
        go_upto_region 22 with (fail)
        have hSd := HM.out.drew
        clear HM
        refine wp_region_held (S := fun u => ∃ y10 : Nat, Env 50 w u n5 [(q22, jst), (q23, jmt), (q20, jda), (q21, jcb), (q19, jdd), (q17, jaa), (q18, jbb), (q15, jsa), (q16, jsb), (q8, jx2), (q9, y10), (q10, jss), (q11, jz3), (g7, ja), (g6, j1), ((w.heap.size + 2), 0), ((w.heap.size + 1), jx), (w.heap.size, E)]) (by kernel_rfl) ?_
        change wpAnyH _ _ _ _ _ _ _ _ wl.drew
        have HX := Lib.hid hSd
        have HSx : Hid ((fun u => ∃ y10 : Nat, Env 50 w u n5 [(q22, jst), (q23, jmt), (q20, jda), (q21, jcb), (q19, jdd), (q17, jaa), (q18, jbb), (q15, jsa), (q16, jsb), (q8, jx2), (q9, y10), (q10, jss), (q11, jz3), (g7, ja), (g6, j1), ((w.heap.size + 2), 0), ((w.heap.size + 1), jx), (w.heap.size, E)]) wl.drew) := ⟨jC2, hSd⟩
        clear hSd
        generalize wl.drew = wd at HX HSx ⊢
        refine takeH (i := 0) (some 111) (.int .i64 2) rfl rfl rfl (by kernel_rfl) (by kernel_rfl) (by kernel_rfl) (fun _ _ _ h => h) (fun w _ => by go_simp) HSx.out ?_
        simp only [Act.put, set1, set2, set3]
        refine takeH (i := 1) (some 112) (.agg (nmA (lb jdd))) rfl rfl rfl (by kernel_rfl) (by kernel_rfl) (by kernel_rfl) (fun _ _ _ h => h) (load_row 50 _ rfl q19 (by kernel_rfl) 50 (nmA (lb jdd)) (0, 0) _ Try.underlying50 rfl (by kernel_rfl) (fun w h => by obtain ⟨y10, h⟩ := h; exact h.get 4 rfl)) HSx.out ?_
        simp only [Act.put, set1, set2, set3]
        refine takeH (i := 2) (some 113) (.int .i64 2) rfl rfl rfl (by kernel_rfl) (by kernel_rfl) (by kernel_rfl) (fun _ _ _ h => h) (fun w _ => by go_simp) HSx.out ?_
        simp only [Act.put, set1, set2, set3]
        refine takeH (i := 3) (some 114) (.agg (nmA (lb jaa))) rfl rfl rfl (by kernel_rfl) (by kernel_rfl) (by kernel_rfl) (fun _ _ _ h => h) (load_row 50 _ rfl q17 (by kernel_rfl) 50 (nmA (lb jaa)) (0, 0) _ Try.underlying50 rfl (by kernel_rfl) (fun w h => by obtain ⟨y10, h⟩ := h; exact h.get 5 rfl)) HSx.out ?_
        simp only [Act.put, set1, set2, set3]
        refine takeH (i := 4) (some 115) (.int .i64 2) rfl rfl rfl (by kernel_rfl) (by kernel_rfl) (by kernel_rfl) (fun _ _ _ h => h) (fun w _ => by go_simp) HSx.out ?_
        simp only [Act.put, set1, set2, set3]
        refine takeH (i := 5) (some 116) (.agg (nmA (lb ja))) rfl rfl rfl (by kernel_rfl) (by kernel_rfl) (by kernel_rfl) (fun _ _ _ h => h) (load_row 50 _ rfl g7 (by kernel_rfl) 50 (nmA (lb ja)) (0, 0) _ Try.underlying50 rfl (by kernel_rfl) (fun w h => by obtain ⟨y10, h⟩ := h; exact h.get 13 rfl)) HSx.out ?_
        simp only [Act.put, set1, set2, set3]
        refine takeH (i := 6) (some 117) (.agg (nmA (lb jdd))) rfl rfl rfl (by kernel_rfl) (by kernel_rfl) (by kernel_rfl) (fun _ _ _ h => h) (load_row 50 _ rfl q19 (by kernel_rfl) 50 (nmA (lb jdd)) (0, 0) _ Try.underlying50 rfl (by kernel_rfl) (fun w h => by obtain ⟨y10, h⟩ := h; exact h.get 4 rfl)) HSx.out ?_
        simp only [Act.put, set1, set2, set3]
        refine wpAnyH_ready (rs := [7]) (by kernel_rfl) (by simp) ?_
        refine callH (some 118) rfl rfl rfl 36 _ _ rfl (fun _ _ => by go_simp) #[.int .i64 2, nmV ja, nmV jdd] (by kernel_rfl) ?_ AllReadyH.nil
        refine (Kfa.out wd).mono ?_
        rintro e uc0 ⟨rfl, hb⟩
        have HX := Lib.hid (HX.out.on hb)
        refine ⟨_, rfl, ⟨jC2, HX.out⟩, ?_⟩
        clear hb
        simp only [Act.put, set1, set2, set3]
        refine wpAnyH_ready (rs := [8]) (by kernel_rfl) (by simp) ?_
        refine callH (some 119) rfl rfl rfl 34 _ _ rfl (fun _ _ => by go_simp) #[.int .i64 2, nmV jaa, nmV jfa] (by kernel_rfl) ?_ AllReadyH.nil
        refine (Kfb.out uc0).mono ?_
        rintro e uc1 ⟨rfl, hb⟩
        have HX := Lib.hid (HX.out.on hb)
        refine ⟨_, rfl, ⟨jC2, HX.out⟩, ?_⟩
        clear hb
        simp only [Act.put, set1, set2, set3]
        refine wpAnyH_ready (rs := [9]) (by kernel_rfl) (by simp) ?_
        refine callH (some 120) rfl rfl rfl 36 _ _ rfl (fun _ _ => by go_simp) #[.int .i64 2, nmV jdd, nmV jfb] (by kernel_rfl) ?_ AllReadyH.nil
        refine (Kz2.out uc1).mono ?_
        rintro e uc2 ⟨rfl, hb⟩
        have HX := Lib.hid (HX.out.on hb)
        refine ⟨_, rfl, ⟨jC2, HX.out⟩, ?_⟩
        clear hb
        simp only [Act.put, set1, set2, set3]
        have hput : Env 50 w (uc2.setRow q9 (nmA (lb jz2))) n5 [(q22, jst), (q23, jmt), (q20, jda), (q21, jcb), (q19, jdd), (q17, jaa), (q18, jbb), (q15, jsa), (q16, jsb), (q8, jx2), (q9, jz2), (q10, jss), (q11, jz3), (g7, ja), (g6, j1), ((w.heap.size + 2), 0), ((w.heap.size + 1), jx), (w.heap.size, E)] := HX.out.put 10 (x := jC2) rfl jz2
        refine wpAnyH_ready (rs := [10]) (by kernel_rfl) (by simp) ?_
        refine storeH rfl rfl rfl 50 _ _ rfl q9 (nmA (lb jz2)) (by kernel_rfl) (by kernel_rfl) 50 _ (HX.out.get 10 rfl) (by kernel_rfl) (by first | rw [nmA_size, nmA_size] | rfl) (nmA_one _) ⟨jz2, hput⟩ ?_ AllReadyH.nil
        have HX := Lib.hid hput
        clear hput
        generalize uc2.setRow q9 (nmA (lb jz2)) = ws0 at HX ⊢
        simp only [Act.put]
        refine wpAnyH_done (by kernel_rfl) ?_ _
        have HM := HX
        clear HX HSx
        generalize ws0 = wz at HM ⊢
        clear Ksa Ksb Kaa Kbb Kdd Kea Kda Keb Kcb Kst Kmt Kss Kmm Kz3 Kx2 Kfa Kfb Kz2
        have HM := Lib.hid (HM.out.drop 9)
        go_wp2_with (fail)
        refine ⟨⟨j + 1, c, n5, x2, z2, ss, z3, HJ.out, HCb.out, HTn.out, rfl, ?_, ?_⟩, HMs.out⟩
        · show _ = _
          rw [HSn.out, HSs.out]
          exact step_done HD.out
        · obtain ⟨k1, k2, k3, k4⟩ := HKj.out
          rw [k1, k2, k3, k4]; exact HM
      · have hSs : Ec.lad a x E j = if c = 0 then ⟨A3, C3, A2, C2⟩ else ⟨A2, C2, A3, C3⟩ := swapped hb2.out HCb.out hbc HSs.out
        have HSs := Lib.hid hSs
        clear hSs
        have bc1 : ((c : Int) != (b : Int)) = true := bne_iff_ne.2 (by omega)
        have bc2 : ¬ (c : Int) = (b : Int) := by omega
        go_upto_region 11 with (fail)
        apply wp_region_lit
        refine wpList_load_row rfl 50 _ rfl q10 (by kernel_rfl) 50 (nmA (lb jA3)) (0, 0) _ (HM.out.get 2 rfl) Try.underlying50 rfl (by kernel_rfl) ?_
        refine wpList_load_row rfl 50 _ rfl q8 (by kernel_rfl) 50 (nmA (lb jA2)) (0, 0) _ (HM.out.get 0 rfl) Try.underlying50 rfl (by kernel_rfl) ?_
        simp only [Act.put, set1, set2, set3]
        have hput : Env 50 w (wr.setRow q8 (nmA (lb jA3))) n0 [(q8, jA3), (q9, jC2), (q10, jA3), (q11, jC3), (g7, ja), (g6, j1), ((w.heap.size + 2), 0), ((w.heap.size + 1), jx), (w.heap.size, E)] := HM.out.put 0 (x := jA2) rfl jA3
        refine wpList_store_row rfl 50 _ _ rfl q8 (nmA (lb jA3)) (by kernel_rfl) (by kernel_rfl) 50 _ (HM.out.get 0 rfl) (by kernel_rfl) (by first | rw [nmA_size, nmA_size] | rfl) (nmA_one _) ?_
        have HM := Lib.hid hput
        clear hput
        generalize wr.setRow q8 (nmA (lb jA3)) = wl at HM ⊢
        simp only [Act.put]
        have hput : Env 50 w (wl.setRow q10 (nmA (lb jA2))) n0 [(q8, jA3), (q9, jC2), (q10, jA2), (q11, jC3), (g7, ja), (g6, j1), ((w.heap.size + 2), 0), ((w.heap.size + 1), jx), (w.heap.size, E)] := HM.out.put 2 (x := jA3) rfl jA2
        refine wpList_store_row rfl 50 _ _ rfl q10 (nmA (lb jA2)) (by kernel_rfl) (by kernel_rfl) 50 _ (HM.out.get 2 rfl) (by kernel_rfl) (by first | rw [nmA_size, nmA_size] | rfl) (nmA_one _) ?_
        have HM := Lib.hid hput
        clear hput
        generalize wl.setRow q10 (nmA (lb jA2)) = wl2 at HM ⊢
        simp only [Act.put]
        go_upto_region 12 with (fail)
        apply wp_region_lit
        refine wpList_load_row rfl 50 _ rfl q11 (by kernel_rfl) 50 (nmA (lb jC3)) (0, 0) _ (HM.out.get 3 rfl) Try.underlying50 rfl (by kernel_rfl) ?_
        refine wpList_load_row rfl 50 _ rfl q9 (by kernel_rfl) 50 (nmA (lb jC2)) (0, 0) _ (HM.out.get 1 rfl) Try.underlying50 rfl (by kernel_rfl) ?_
        simp only [Act.put, set1, set2, set3]
        have hput : Env 50 w (wl2.setRow q9 (nmA (lb jC3))) n0 [(q8, jA3), (q9, jC3), (q10, jA2), (q11, jC3), (g7, ja), (g6, j1), ((w.heap.size + 2), 0), ((w.heap.size + 1), jx), (w.heap.size, E)] := HM.out.put 1 (x := jC2) rfl jC3
        refine wpList_store_row rfl 50 _ _ rfl q9 (nmA (lb jC3)) (by kernel_rfl) (by kernel_rfl) 50 _ (HM.out.get 1 rfl) (by kernel_rfl) (by first | rw [nmA_size, nmA_size] | rfl) (nmA_one _) ?_
        have HM := Lib.hid hput
        clear hput
        generalize wl2.setRow q9 (nmA (lb jC3)) = wl3 at HM ⊢
        simp only [Act.put]
        have hput : Env 50 w (wl3.setRow q11 (nmA (lb jC2))) n0 [(q8, jA3), (q9, jC3), (q10, jA2), (q11, jC2), (g7, ja), (g6, j1), ((w.heap.size + 2), 0), ((w.heap.size + 1), jx), (w.heap.size, E)] := HM.out.put 3 (x := jC3) rfl jC2
        refine wpList_store_row rfl 50 _ _ rfl q11 (nmA (lb jC2)) (by kernel_rfl) (by kernel_rfl) 50 _ (HM.out.get 3 rfl) (by kernel_rfl) (by first | rw [nmA_size, nmA_size] | rfl) (nmA_one _) ?_
        have HM := Lib.hid hput
        clear hput
        generalize wl3.setRow q11 (nmA (lb jC2)) = wl4 at HM ⊢
        simp only [Act.put]
        clear bc1 bc2
        obtain ⟨sa, hsa⟩ : ∃ v : Fin m, A3 + C3 = v := ⟨_, rfl⟩
        obtain ⟨jsa, ksa⟩ : ∃ j, J sa = j := ⟨_, rfl⟩
        have Ksa : Hid (∀ u : World, Calls Try.prog 34 #[.int .i64 2, nmV jA3, nmV jC3] u fun e u' => e = .returned (nmV jsa) ∧ Below u.heap.size u u') := fun u => by
          have := HAd.out A3 C3 u
          rw [hsa, ksa, kA3, kC3] at this
          exact this
        obtain ⟨sb, hsb⟩ : ∃ v : Fin m, A3 - C3 = v := ⟨_, rfl⟩
        obtain ⟨jsb, ksb⟩ : ∃ j, J sb = j := ⟨_, rfl⟩
        have Ksb : Hid (∀ u : World, Calls Try.prog 35 #[.int .i64 2, nmV jA3, nmV jC3] u fun e u' => e = .returned (nmV jsb) ∧ Below u.heap.size u u') := fun u => by
          have := HSu.out A3 C3 u
          rw [hsb, ksb, kA3, kC3] at this
          exact this
        obtain ⟨aa, haa⟩ : ∃ v : Fin m, sa * sa = v := ⟨_, rfl⟩
        obtain ⟨jaa, kaa⟩ : ∃ j, J aa = j := ⟨_, rfl⟩
        have Kaa : Hid (∀ u : World, Calls Try.prog 36 #[.int .i64 2, nmV jsa, nmV jsa] u fun e u' => e = .returned (nmV jaa) ∧ Below u.heap.size u u') := fun u => by
          have := HMu.out sa sa u
          rw [haa, kaa, ksa] at this
          exact this
        obtain ⟨bb, hbb⟩ : ∃ v : Fin m, sb * sb = v := ⟨_, rfl⟩
        obtain ⟨jbb, kbb⟩ : ∃ j, J bb = j := ⟨_, rfl⟩
        have Kbb : Hid (∀ u : World, Calls Try.prog 36 #[.int .i64 2, nmV jsb, nmV jsb] u fun e u' => e = .returned (nmV jbb) ∧ Below u.heap.size u u') := fun u => by
          have := HMu.out sb sb u
          rw [hbb, kbb, ksb] at this
          exact this
        obtain ⟨dd, hdd⟩ : ∃ v : Fin m, aa - bb = v := ⟨_, rfl⟩
        obtain ⟨jdd, kdd⟩ : ∃ j, J dd = j := ⟨_, rfl⟩
        have Kdd : Hid (∀ u : World, Calls Try.prog 35 #[.int .i64 2, nmV jaa, nmV jbb] u fun e u' => e = .returned (nmV jdd) ∧ Below u.heap.size u u') := fun u => by
          have := HSu.out aa bb u
          rw [hdd, kdd, kaa, kbb] at this
          exact this
        obtain ⟨ea, hea⟩ : ∃ v : Fin m, A2 - C2 = v := ⟨_, rfl⟩
        obtain ⟨jea, kea⟩ : ∃ j, J ea = j := ⟨_, rfl⟩
        have Kea : Hid (∀ u : World, Calls Try.prog 35 #[.int .i64 2, nmV jA2, nmV jC2] u fun e u' => e = .returned (nmV jea) ∧ Below u.heap.size u u') := fun u => by
          have := HSu.out A2 C2 u
          rw [hea, kea, kA2, kC2] at this
          exact this
        obtain ⟨da, hda⟩ : ∃ v : Fin m, ea * sa = v := ⟨_, rfl⟩
        obtain ⟨jda, kda⟩ : ∃ j, J da = j := ⟨_, rfl⟩
        have Kda : Hid (∀ u : World, Calls Try.prog 36 #[.int .i64 2, nmV jea, nmV jsa] u fun e u' => e = .returned (nmV jda) ∧ Below u.heap.size u u') := fun u => by
          have := HMu.out ea sa u
          rw [hda, kda, kea, ksa] at this
          exact this
        obtain ⟨eb, heb⟩ : ∃ v : Fin m, A2 + C2 = v := ⟨_, rfl⟩
        obtain ⟨jeb, keb⟩ : ∃ j, J eb = j := ⟨_, rfl⟩
        have Keb : Hid (∀ u : World, Calls Try.prog 34 #[.int .i64 2, nmV jA2, nmV jC2] u fun e u' => e = .returned (nmV jeb) ∧ Below u.heap.size u u') := fun u => by
          have := HAd.out A2 C2 u
          rw [heb, keb, kA2, kC2] at this
          exact this
        obtain ⟨cb, hcb⟩ : ∃ v : Fin m, eb * sb = v := ⟨_, rfl⟩
        obtain ⟨jcb, kcb⟩ : ∃ j, J cb = j := ⟨_, rfl⟩
        have Kcb : Hid (∀ u : World, Calls Try.prog 36 #[.int .i64 2, nmV jeb, nmV jsb] u fun e u' => e = .returned (nmV jcb) ∧ Below u.heap.size u u') := fun u => by
          have := HMu.out eb sb u
          rw [hcb, kcb, keb, ksb] at this
          exact this
        obtain ⟨st, hst⟩ : ∃ v : Fin m, da + cb = v := ⟨_, rfl⟩
        obtain ⟨jst, kst⟩ : ∃ j, J st = j := ⟨_, rfl⟩
        have Kst : Hid (∀ u : World, Calls Try.prog 34 #[.int .i64 2, nmV jda, nmV jcb] u fun e u' => e = .returned (nmV jst) ∧ Below u.heap.size u u') := fun u => by
          have := HAd.out da cb u
          rw [hst, kst, kda, kcb] at this
          exact this
        obtain ⟨mt, hmt⟩ : ∃ v : Fin m, da - cb = v := ⟨_, rfl⟩
        obtain ⟨jmt, kmt⟩ : ∃ j, J mt = j := ⟨_, rfl⟩
        have Kmt : Hid (∀ u : World, Calls Try.prog 35 #[.int .i64 2, nmV jda, nmV jcb] u fun e u' => e = .returned (nmV jmt) ∧ Below u.heap.size u u') := fun u => by
          have := HSu.out da cb u
          rw [hmt, kmt, kda, kcb] at this
          exact this
        obtain ⟨ss, hss⟩ : ∃ v : Fin m, st * st = v := ⟨_, rfl⟩
        obtain ⟨jss, kss⟩ : ∃ j, J ss = j := ⟨_, rfl⟩
        have Kss : Hid (∀ u : World, Calls Try.prog 36 #[.int .i64 2, nmV jst, nmV jst] u fun e u' => e = .returned (nmV jss) ∧ Below u.heap.size u u') := fun u => by
          have := HMu.out st st u
          rw [hss, kss, kst] at this
          exact this
        obtain ⟨mm, hmm⟩ : ∃ v : Fin m, mt * mt = v := ⟨_, rfl⟩
        obtain ⟨jmm, kmm⟩ : ∃ j, J mm = j := ⟨_, rfl⟩
        have Kmm : Hid (∀ u : World, Calls Try.prog 36 #[.int .i64 2, nmV jmt, nmV jmt] u fun e u' => e = .returned (nmV jmm) ∧ Below u.heap.size u u') := fun u => by
          have := HMu.out mt mt u
          rw [hmm, kmm, kmt] at this
          exact this
        obtain ⟨z3, hz3⟩ : ∃ v : Fin m, x * mm = v := ⟨_, rfl⟩
        obtain ⟨jz3, kz3⟩ : ∃ j, J z3 = j := ⟨_, rfl⟩
        have Kz3 : Hid (∀ u : World, Calls Try.prog 36 #[.int .i64 2, nmV jx, nmV jmm] u fun e u' => e = .returned (nmV jz3) ∧ Below u.heap.size u u') := fun u => by
          have := HMu.out x mm u
          rw [hz3, kz3, kx, kmm] at this
          exact this
        obtain ⟨x2, hx2⟩ : ∃ v : Fin m, aa * bb = v := ⟨_, rfl⟩
        obtain ⟨jx2, kx2⟩ : ∃ j, J x2 = j := ⟨_, rfl⟩
        have Kx2 : Hid (∀ u : World, Calls Try.prog 36 #[.int .i64 2, nmV jaa, nmV jbb] u fun e u' => e = .returned (nmV jx2) ∧ Below u.heap.size u u') := fun u => by
          have := HMu.out aa bb u
          rw [hx2, kx2, kaa, kbb] at this
          exact this
        obtain ⟨fa, hfa⟩ : ∃ v : Fin m, a * dd = v := ⟨_, rfl⟩
        obtain ⟨jfa, kfa⟩ : ∃ j, J fa = j := ⟨_, rfl⟩
        have Kfa : Hid (∀ u : World, Calls Try.prog 36 #[.int .i64 2, nmV ja, nmV jdd] u fun e u' => e = .returned (nmV jfa) ∧ Below u.heap.size u u') := fun u => by
          have := HMu.out a dd u
          rw [hfa, kfa, ka, kdd] at this
          exact this
        obtain ⟨fb, hfb⟩ : ∃ v : Fin m, aa + fa = v := ⟨_, rfl⟩
        obtain ⟨jfb, kfb⟩ : ∃ j, J fb = j := ⟨_, rfl⟩
        have Kfb : Hid (∀ u : World, Calls Try.prog 34 #[.int .i64 2, nmV jaa, nmV jfa] u fun e u' => e = .returned (nmV jfb) ∧ Below u.heap.size u u') := fun u => by
          have := HAd.out aa fa u
          rw [hfb, kfb, kaa, kfa] at this
          exact this
        obtain ⟨z2, hz2⟩ : ∃ v : Fin m, dd * fb = v := ⟨_, rfl⟩
        obtain ⟨jz2, kz2⟩ : ∃ j, J z2 = j := ⟨_, rfl⟩
        have Kz2 : Hid (∀ u : World, Calls Try.prog 36 #[.int .i64 2, nmV jdd, nmV jfb] u fun e u' => e = .returned (nmV jz2) ∧ Below u.heap.size u u') := fun u => by
          have := HMu.out dd fb u
          rw [hz2, kz2, kdd, kfb] at this
          exact this
        have HD : Hid ( A3 + C3 = sa ∧ A3 - C3 = sb ∧ sa * sa = aa ∧ sb * sb = bb ∧ aa - bb = dd ∧ A2 - C2 = ea ∧ ea * sa = da ∧ A2 + C2 = eb ∧ eb * sb = cb ∧ da + cb = st ∧ da - cb = mt ∧ st * st = ss ∧ mt * mt = mm ∧ x * mm = z3 ∧ aa * bb = x2 ∧ a * dd = fa ∧ aa + fa = fb ∧ dd * fb = z2) := ⟨hsa, hsb, haa, hbb, hdd, hea, hda, heb, hcb, hst, hmt, hss, hmm, hz3, hx2, hfa, hfb, hz2⟩
        have HKj : Hid (J x2 = jx2 ∧ J z2 = jz2 ∧ J ss = jss ∧ J z3 = jz3) := ⟨kx2, kz2, kss, kz3⟩
        clear hsa hsb haa hbb hdd hea hda heb hcb hst hmt hss hmm hz3 hx2 hfa hfb hz2 ksa ksb kaa kbb kdd kea kda keb kcb kst kmt kss kmm kz3 kx2 kfa kfb kz2
        go_upto_region 14 with (fail)
        go_upto_region 14 with (fail)
        have hSd := HM.out.drew
        clear HM
        refine wp_region_held (S := fun u => Env 50 w u n0 [(q8, jA3), (q9, jC3), (q10, jA2), (q11, jC2), (g7, ja), (g6, j1), ((w.heap.size + 2), 0), ((w.heap.size + 1), jx), (w.heap.size, E)]) (by kernel_rfl) ?_
        change wpAnyH _ _ _ _ _ _ _ _ wl4.drew
        have HSx := Lib.hid hSd
        clear hSd
        generalize wl4.drew = wd at HSx ⊢
        refine takeH (i := 0) (some 54) (.int .i64 2) rfl rfl rfl (by kernel_rfl) (by kernel_rfl) (by kernel_rfl) (fun _ _ _ h => h) (fun w _ => by go_simp) HSx.out ?_
        simp only [Act.put, set1, set2, set3]
        refine takeH (i := 1) (some 55) (.agg (nmA (lb jA3))) rfl rfl rfl (by kernel_rfl) (by kernel_rfl) (by kernel_rfl) (fun _ _ _ h => h) (load_row 50 _ rfl q8 (by kernel_rfl) 50 (nmA (lb jA3)) (0, 0) _ Try.underlying50 rfl (by kernel_rfl) (fun w h => h.get 0 rfl)) HSx.out ?_
        simp only [Act.put, set1, set2, set3]
        refine takeH (i := 2) (some 56) (.agg (nmA (lb jC3))) rfl rfl rfl (by kernel_rfl) (by kernel_rfl) (by kernel_rfl) (fun _ _ _ h => h) (load_row 50 _ rfl q9 (by kernel_rfl) 50 (nmA (lb jC3)) (0, 0) _ Try.underlying50 rfl (by kernel_rfl) (fun w h => h.get 1 rfl)) HSx.out ?_
        simp only [Act.put, set1, set2, set3]
        refine takeH (i := 4) (some 58) (.int .i64 2) rfl rfl rfl (by kernel_rfl) (by kernel_rfl) (by kernel_rfl) (fun _ _ _ h => h) (fun w _ => by go_simp) HSx.out ?_
        simp only [Act.put, set1, set2, set3]
        refine takeH (i := 5) (some 59) (.agg (nmA (lb jA3))) rfl rfl rfl (by kernel_rfl) (by kernel_rfl) (by kernel_rfl) (fun _ _ _ h => h) (load_row 50 _ rfl q8 (by kernel_rfl) 50 (nmA (lb jA3)) (0, 0) _ Try.underlying50 rfl (by kernel_rfl) (fun w h => h.get 0 rfl)) HSx.out ?_
        simp only [Act.put, set1, set2, set3]
        refine takeH (i := 6) (some 60) (.agg (nmA (lb jC3))) rfl rfl rfl (by kernel_rfl) (by kernel_rfl) (by kernel_rfl) (fun _ _ _ h => h) (load_row 50 _ rfl q9 (by kernel_rfl) 50 (nmA (lb jC3)) (0, 0) _ Try.underlying50 rfl (by kernel_rfl) (fun w h => h.get 1 rfl)) HSx.out ?_
        simp only [Act.put, set1, set2, set3]
        refine meetH (fun (x : Nat × Nat) a => ((((a.put (some 57) (nmV jsa)).put (some 61) (nmV jsb)).put (some 15) (.pointer (some ⟨x.1, 0, none⟩))).put (some 16) (.pointer (some ⟨x.2, 0, none⟩)))) #[true, true, true, true, true, true, true, true, true, true, false, false] 2 (fun (x : Nat × Nat) W => (Env 50 w W n0 [(q8, jA3), (q9, jC3), (q10, jA2), (q11, jC2), (g7, ja), (g6, j1), ((w.heap.size + 2), 0), ((w.heap.size + 1), jx), (w.heap.size, E)]) ∧ (n0 ≤ x.1 ∧ Cell 50 W x.1 0) ∧ (n0 ≤ x.2 ∧ Cell 50 W x.2 0) ∧ (¬ x.1 = x.2)) ?_ (fun key2_010 => ?_)
        rotate_left
        · simp only [Act.put, set1, set2, set3] at key2_010
          have key2_01 := Lib.hid key2_010
          clear key2_010
          refine meetH (fun (x : Nat × Nat) a => (((a.put (some 57) (nmV jsa)).put (some 15) (.pointer (some ⟨x.1, 0, none⟩))).put (some 16) (.pointer (some ⟨x.2, 0, none⟩)))) #[true, true, true, true, true, true, true, false, true, true, false, false] 3 (fun (x : Nat × Nat) W => (Env 50 w W n0 [(q8, jA3), (q9, jC3), (q10, jA2), (q11, jC2), (g7, ja), (g6, j1), ((w.heap.size + 2), 0), ((w.heap.size + 1), jx), (w.heap.size, E)]) ∧ (n0 ≤ x.1 ∧ Cell 50 W x.1 0) ∧ (n0 ≤ x.2 ∧ Cell 50 W x.2 0) ∧ (¬ x.1 = x.2)) ?_ (fun key1_010 => ?_)
          · rintro ⟨q15, q16⟩ W ⟨hS, ⟨hn0, hc0⟩, ⟨hn1, hc1⟩, hd01⟩
            simp only [Act.put, set1, set2, set3]
            refine wpAnyH_ready (rs := [7]) (by kernel_rfl) (by simp) ?_
            refine callH (some 61) rfl rfl rfl 35 _ _ rfl (fun _ _ => by go_simp) #[.int .i64 2, nmV jA3, nmV jC3] (by kernel_rfl) ?_ AllReadyH.nil
            · refine (Ksb.out W).mono ?_
              rintro e u ⟨rfl, hb⟩
              refine ⟨_, rfl, hS.on hb, ?_⟩
              simp only [Act.put, set1, set2, set3]
              exact key2_01.out (q15, q16) _ ⟨hS.on hb, ⟨hn0, hc0.on hb⟩, ⟨hn1, hc1.on hb⟩, hd01⟩
          simp only [Act.put, set1, set2, set3] at key1_010
          have key1_01 := Lib.hid key1_010
          clear key1_010
          refine meetH (fun (x : Nat × Nat) a => (((a.put (some 57) (nmV jsa)).put (some 61) (nmV jsb)).put (some 15) (.pointer (some ⟨x.1, 0, none⟩)))) #[true, true, true, true, true, true, true, true, true, false, false, false] 3 (fun (x : Nat × Nat) W => (Env 50 w W n0 [(q8, jA3), (q9, jC3), (q10, jA2), (q11, jC2), (g7, ja), (g6, j1), ((w.heap.size + 2), 0), ((w.heap.size + 1), jx), (w.heap.size, E)]) ∧ (n0 ≤ x.1 ∧ Cell 50 W x.1 0)) ?_ (fun key2_00 => ?_)
          · rintro ⟨q15, q16⟩ W ⟨hS, ⟨hn0, hc0⟩⟩
            simp only [Act.put, set1, set2, set3]
            refine wpAnyH_ready (rs := [9]) (by kernel_rfl) (by simp) ?_
            refine allocH (some 16) rfl rfl rfl 50 rfl (nmA (lb 0)) alloc_0 (hS.alloc _) ?_ AllReadyH.nil
            · simp only [Act.put, set1, set2, set3]
              exact key2_01.out (q15, W.heap.size) _ ⟨hS.alloc _, ⟨hn0, hc0.alloc _⟩, ⟨hS.size, Cell.new _ _ 0⟩, (fun (e : q15 = W.heap.size) => by have h : q15 < W.heap.size := hc0.lt; omega)⟩
          simp only [Act.put, set1, set2, set3] at key2_00
          have key2_0 := Lib.hid key2_00
          clear key2_00
          refine meetH (fun (x : Nat × Nat) a => (((a.put (some 57) (nmV jsa)).put (some 61) (nmV jsb)).put (some 16) (.pointer (some ⟨x.2, 0, none⟩)))) #[true, true, true, true, true, true, true, true, false, true, false, false] 3 (fun (x : Nat × Nat) W => (Env 50 w W n0 [(q8, jA3), (q9, jC3), (q10, jA2), (q11, jC2), (g7, ja), (g6, j1), ((w.heap.size + 2), 0), ((w.heap.size + 1), jx), (w.heap.size, E)]) ∧ (n0 ≤ x.2 ∧ Cell 50 W x.2 0)) ?_ (fun key2_10 => ?_)
          · rintro ⟨q15, q16⟩ W ⟨hS, ⟨hn1, hc1⟩⟩
            simp only [Act.put, set1, set2, set3]
            refine wpAnyH_ready (rs := [8]) (by kernel_rfl) (by simp) ?_
            refine allocH (some 15) rfl rfl rfl 50 rfl (nmA (lb 0)) alloc_0 (hS.alloc _) ?_ AllReadyH.nil
            · simp only [Act.put, set1, set2, set3]
              exact key2_01.out (W.heap.size, q16) _ ⟨hS.alloc _, ⟨hS.size, Cell.new _ _ 0⟩, ⟨hn1, hc1.alloc _⟩, (fun (e : W.heap.size = q16) => by have h : q16 < W.heap.size := hc1.lt; omega)⟩
          simp only [Act.put, set1, set2, set3] at key2_10
          have key2_1 := Lib.hid key2_10
          clear key2_10
          refine meetH (fun (x : Nat × Nat) a => ((a.put (some 15) (.pointer (some ⟨x.1, 0, none⟩))).put (some 16) (.pointer (some ⟨x.2, 0, none⟩)))) #[true, true, true, false, true, true, true, false, true, true, false, false] 4 (fun (x : Nat × Nat) W => (Env 50 w W n0 [(q8, jA3), (q9, jC3), (q10, jA2), (q11, jC2), (g7, ja), (g6, j1), ((w.heap.size + 2), 0), ((w.heap.size + 1), jx), (w.heap.size, E)]) ∧ (n0 ≤ x.1 ∧ Cell 50 W x.1 0) ∧ (n0 ≤ x.2 ∧ Cell 50 W x.2 0) ∧ (¬ x.1 = x.2)) ?_ (fun key0_010 => ?_)
          · rintro ⟨q15, q16⟩ W ⟨hS, ⟨hn0, hc0⟩, ⟨hn1, hc1⟩, hd01⟩
            simp only [Act.put, set1, set2, set3]
            refine wpAnyH_ready (rs := [3]) (by kernel_rfl) (by simp) ?_
            refine callH (some 57) rfl rfl rfl 34 _ _ rfl (fun _ _ => by go_simp) #[.int .i64 2, nmV jA3, nmV jC3] (by kernel_rfl) ?_ AllReadyH.nil
            · refine (Ksa.out W).mono ?_
              rintro e u ⟨rfl, hb⟩
              refine ⟨_, rfl, hS.on hb, ?_⟩
              simp only [Act.put, set1, set2, set3]
              exact key1_01.out (q15, q16) _ ⟨hS.on hb, ⟨hn0, hc0.on hb⟩, ⟨hn1, hc1.on hb⟩, hd01⟩
          simp only [Act.put, set1, set2, set3] at key0_010
          have key0_01 := Lib.hid key0_010
          clear key0_010
          refine meetH (fun (x : Nat × Nat) a => ((a.put (some 57) (nmV jsa)).put (some 15) (.pointer (some ⟨x.1, 0, none⟩)))) #[true, true, true, true, true, true, true, false, true, false, false, false] 4 (fun (x : Nat × Nat) W => (Env 50 w W n0 [(q8, jA3), (q9, jC3), (q10, jA2), (q11, jC2), (g7, ja), (g6, j1), ((w.heap.size + 2), 0), ((w.heap.size + 1), jx), (w.heap.size, E)]) ∧ (n0 ≤ x.1 ∧ Cell 50 W x.1 0)) ?_ (fun key1_00 => ?_)
          · rintro ⟨q15, q16⟩ W ⟨hS, ⟨hn0, hc0⟩⟩
            simp only [Act.put, set1, set2, set3]
            refine wpAnyH_ready (rs := [7, 9]) (by kernel_rfl) (by simp) ?_
            refine callH (some 61) rfl rfl rfl 35 _ _ rfl (fun _ _ => by go_simp) #[.int .i64 2, nmV jA3, nmV jC3] (by kernel_rfl) ?_ (allocH (some 16) rfl rfl rfl 50 rfl (nmA (lb 0)) alloc_0 (hS.alloc _) ?_ AllReadyH.nil)
            · refine (Ksb.out W).mono ?_
              rintro e u ⟨rfl, hb⟩
              refine ⟨_, rfl, hS.on hb, ?_⟩
              simp only [Act.put, set1, set2, set3]
              exact key2_0.out (q15, 0) _ ⟨hS.on hb, ⟨hn0, hc0.on hb⟩⟩
            · simp only [Act.put, set1, set2, set3]
              exact key1_01.out (q15, W.heap.size) _ ⟨hS.alloc _, ⟨hn0, hc0.alloc _⟩, ⟨hS.size, Cell.new _ _ 0⟩, (fun (e : q15 = W.heap.size) => by have h : q15 < W.heap.size := hc0.lt; omega)⟩
          simp only [Act.put, set1, set2, set3] at key1_00
          have key1_0 := Lib.hid key1_00
          clear key1_00
          refine meetH (fun (x : Nat × Nat) a => ((a.put (some 57) (nmV jsa)).put (some 16) (.pointer (some ⟨x.2, 0, none⟩)))) #[true, true, true, true, true, true, true, false, false, true, false, false] 4 (fun (x : Nat × Nat) W => (Env 50 w W n0 [(q8, jA3), (q9, jC3), (q10, jA2), (q11, jC2), (g7, ja), (g6, j1), ((w.heap.size + 2), 0), ((w.heap.size + 1), jx), (w.heap.size, E)]) ∧ (n0 ≤ x.2 ∧ Cell 50 W x.2 0)) ?_ (fun key1_10 => ?_)
          · rintro ⟨q15, q16⟩ W ⟨hS, ⟨hn1, hc1⟩⟩
            simp only [Act.put, set1, set2, set3]
            refine wpAnyH_ready (rs := [7, 8]) (by kernel_rfl) (by simp) ?_
            refine callH (some 61) rfl rfl rfl 35 _ _ rfl (fun _ _ => by go_simp) #[.int .i64 2, nmV jA3, nmV jC3] (by kernel_rfl) ?_ (allocH (some 15) rfl rfl rfl 50 rfl (nmA (lb 0)) alloc_0 (hS.alloc _) ?_ AllReadyH.nil)
            · refine (Ksb.out W).mono ?_
              rintro e u ⟨rfl, hb⟩
              refine ⟨_, rfl, hS.on hb, ?_⟩
              simp only [Act.put, set1, set2, set3]
              exact key2_1.out (0, q16) _ ⟨hS.on hb, ⟨hn1, hc1.on hb⟩⟩
            · simp only [Act.put, set1, set2, set3]
              exact key1_01.out (W.heap.size, q16) _ ⟨hS.alloc _, ⟨hS.size, Cell.new _ _ 0⟩, ⟨hn1, hc1.alloc _⟩, (fun (e : W.heap.size = q16) => by have h : q16 < W.heap.size := hc1.lt; omega)⟩
          simp only [Act.put, set1, set2, set3] at key1_10
          have key1_1 := Lib.hid key1_10
          clear key1_10
          refine meetH (fun (x : Nat × Nat) a => ((a.put (some 57) (nmV jsa)).put (some 61) (nmV jsb))) #[true, true, true, true, true, true, true, true, false, false, false, false] 4 (fun (x : Nat × Nat) W => (Env 50 w W n0 [(q8, jA3), (q9, jC3), (q10, jA2), (q11, jC2), (g7, ja), (g6, j1), ((w.heap.size + 2), 0), ((w.heap.size + 1), jx), (w.heap.size, E)])) ?_ (fun key2_0 => ?_)
          · rintro ⟨q15, q16⟩ W hS
            simp only [Act.put, set1, set2, set3]
            refine wpAnyH_ready (rs := [8, 9]) (by kernel_rfl) (by simp) ?_
            refine allocH (some 15) rfl rfl rfl 50 rfl (nmA (lb 0)) alloc_0 (hS.alloc _) ?_ (allocH (some 16) rfl rfl rfl 50 rfl (nmA (lb 0)) alloc_0 (hS.alloc _) ?_ AllReadyH.nil)
            · simp only [Act.put, set1, set2, set3]
              exact key2_0.out (W.heap.size, 0) _ ⟨hS.alloc _, ⟨hS.size, Cell.new _ _ 0⟩⟩
            · simp only [Act.put, set1, set2, set3]
              exact key2_1.out (0, W.heap.size) _ ⟨hS.alloc _, ⟨hS.size, Cell.new _ _ 0⟩⟩
          simp only [Act.put, set1, set2, set3] at key2_0
          have key2_ := Lib.hid key2_0
          clear key2_0
          refine meetH (fun (x : Nat × Nat) a => (a.put (some 15) (.pointer (some ⟨x.1, 0, none⟩)))) #[true, true, true, false, true, true, true, false, true, false, false, false] 5 (fun (x : Nat × Nat) W => (Env 50 w W n0 [(q8, jA3), (q9, jC3), (q10, jA2), (q11, jC2), (g7, ja), (g6, j1), ((w.heap.size + 2), 0), ((w.heap.size + 1), jx), (w.heap.size, E)]) ∧ (n0 ≤ x.1 ∧ Cell 50 W x.1 0)) ?_ (fun key0_00 => ?_)
          · rintro ⟨q15, q16⟩ W ⟨hS, ⟨hn0, hc0⟩⟩
            simp only [Act.put, set1, set2, set3]
            refine wpAnyH_ready (rs := [3, 9]) (by kernel_rfl) (by simp) ?_
            refine callH (some 57) rfl rfl rfl 34 _ _ rfl (fun _ _ => by go_simp) #[.int .i64 2, nmV jA3, nmV jC3] (by kernel_rfl) ?_ (allocH (some 16) rfl rfl rfl 50 rfl (nmA (lb 0)) alloc_0 (hS.alloc _) ?_ AllReadyH.nil)
            · refine (Ksa.out W).mono ?_
              rintro e u ⟨rfl, hb⟩
              refine ⟨_, rfl, hS.on hb, ?_⟩
              simp only [Act.put, set1, set2, set3]
              exact key1_0.out (q15, 0) _ ⟨hS.on hb, ⟨hn0, hc0.on hb⟩⟩
            · simp only [Act.put, set1, set2, set3]
              exact key0_01.out (q15, W.heap.size) _ ⟨hS.alloc _, ⟨hn0, hc0.alloc _⟩, ⟨hS.size, Cell.new _ _ 0⟩, (fun (e : q15 = W.heap.size) => by have h : q15 < W.heap.size := hc0.lt; omega)⟩
          simp only [Act.put, set1, set2, set3] at key0_00
          have key0_0 := Lib.hid key0_00
          clear key0_00
          refine meetH (fun (x : Nat × Nat) a => (a.put (some 16) (.pointer (some ⟨x.2, 0, none⟩)))) #[true, true, true, false, true, true, true, false, false, true, false, false] 5 (fun (x : Nat × Nat) W => (Env 50 w W n0 [(q8, jA3), (q9, jC3), (q10, jA2), (q11, jC2), (g7, ja), (g6, j1), ((w.heap.size + 2), 0), ((w.heap.size + 1), jx), (w.heap.size, E)]) ∧ (n0 ≤ x.2 ∧ Cell 50 W x.2 0)) ?_ (fun key0_10 => ?_)
          · rintro ⟨q15, q16⟩ W ⟨hS, ⟨hn1, hc1⟩⟩
            simp only [Act.put, set1, set2, set3]
            refine wpAnyH_ready (rs := [3, 8]) (by kernel_rfl) (by simp) ?_
            refine callH (some 57) rfl rfl rfl 34 _ _ rfl (fun _ _ => by go_simp) #[.int .i64 2, nmV jA3, nmV jC3] (by kernel_rfl) ?_ (allocH (some 15) rfl rfl rfl 50 rfl (nmA (lb 0)) alloc_0 (hS.alloc _) ?_ AllReadyH.nil)
            · refine (Ksa.out W).mono ?_
              rintro e u ⟨rfl, hb⟩
              refine ⟨_, rfl, hS.on hb, ?_⟩
              simp only [Act.put, set1, set2, set3]
              exact key1_1.out (0, q16) _ ⟨hS.on hb, ⟨hn1, hc1.on hb⟩⟩
            · simp only [Act.put, set1, set2, set3]
              exact key0_01.out (W.heap.size, q16) _ ⟨hS.alloc _, ⟨hS.size, Cell.new _ _ 0⟩, ⟨hn1, hc1.alloc _⟩, (fun (e : W.heap.size = q16) => by have h : q16 < W.heap.size := hc1.lt; omega)⟩
          simp only [Act.put, set1, set2, set3] at key0_10
          have key0_1 := Lib.hid key0_10
          clear key0_10
          refine meetH (fun (x : Nat × Nat) a => (a.put (some 57) (nmV jsa))) #[true, true, true, true, true, true, true, false, false, false, false, false] 5 (fun (x : Nat × Nat) W => (Env 50 w W n0 [(q8, jA3), (q9, jC3), (q10, jA2), (q11, jC2), (g7, ja), (g6, j1), ((w.heap.size + 2), 0), ((w.heap.size + 1), jx), (w.heap.size, E)])) ?_ (fun key1_0 => ?_)
          · rintro ⟨q15, q16⟩ W hS
            simp only [Act.put, set1, set2, set3]
            refine wpAnyH_ready (rs := [7, 8, 9]) (by kernel_rfl) (by simp) ?_
            refine callH (some 61) rfl rfl rfl 35 _ _ rfl (fun _ _ => by go_simp) #[.int .i64 2, nmV jA3, nmV jC3] (by kernel_rfl) ?_ (allocH (some 15) rfl rfl rfl 50 rfl (nmA (lb 0)) alloc_0 (hS.alloc _) ?_ (allocH (some 16) rfl rfl rfl 50 rfl (nmA (lb 0)) alloc_0 (hS.alloc _) ?_ AllReadyH.nil))
            · refine (Ksb.out W).mono ?_
              rintro e u ⟨rfl, hb⟩
              refine ⟨_, rfl, hS.on hb, ?_⟩
              simp only [Act.put, set1, set2, set3]
              exact key2_.out (0, 0) _ (hS.on hb)
            · simp only [Act.put, set1, set2, set3]
              exact key1_0.out (W.heap.size, 0) _ ⟨hS.alloc _, ⟨hS.size, Cell.new _ _ 0⟩⟩
            · simp only [Act.put, set1, set2, set3]
              exact key1_1.out (0, W.heap.size) _ ⟨hS.alloc _, ⟨hS.size, Cell.new _ _ 0⟩⟩
          simp only [Act.put, set1, set2, set3] at key1_0
          have key1_ := Lib.hid key1_0
          clear key1_0
          refine wpAnyH_ready (rs := [3, 8, 9]) (by kernel_rfl) (by simp) ?_
          refine callH (some 57) rfl rfl rfl 34 _ _ rfl (fun _ _ => by go_simp) #[.int .i64 2, nmV jA3, nmV jC3] (by kernel_rfl) ?_ (allocH (some 15) rfl rfl rfl 50 rfl (nmA (lb 0)) alloc_0 (HSx.out.alloc _) ?_ (allocH (some 16) rfl rfl rfl 50 rfl (nmA (lb 0)) alloc_0 (HSx.out.alloc _) ?_ AllReadyH.nil))
          · refine (Ksa.out wd).mono ?_
            rintro e u ⟨rfl, hb⟩
            refine ⟨_, rfl, HSx.out.on hb, ?_⟩
            simp only [Act.put, set1, set2, set3]
            exact key1_.out (0, 0) _ (HSx.out.on hb)
          · simp only [Act.put, set1, set2, set3]
            exact key0_0.out (wd.heap.size, 0) _ ⟨HSx.out.alloc _, ⟨HSx.out.size, Cell.new _ _ 0⟩⟩
          · simp only [Act.put, set1, set2, set3]
            exact key0_1.out (0, wd.heap.size) _ ⟨HSx.out.alloc _, ⟨HSx.out.size, Cell.new _ _ 0⟩⟩
        rintro ⟨q15, q16⟩ W ⟨hS, ⟨hn0, hc0⟩, ⟨hn1, hc1⟩, hd01⟩
        simp only [Act.put, set1, set2, set3]
        have HE := Lib.hid hS
        have C0 := Lib.hid hc0
        have C1 := Lib.hid hc1
        refine wpAnyH_ready (rs := [10]) (by kernel_rfl) (by simp) ?_
        refine storeH rfl rfl rfl 50 _ _ rfl q15 (nmA (lb jsa)) (by kernel_rfl) (by kernel_rfl) 50 _ C0.out (by kernel_rfl) (by first | rw [nmA_size, nmA_size] | rfl) (nmA_one _) (HE.out.far _ hn0) ?_ AllReadyH.nil
        have HE := Lib.hid (HE.out.far (nmA (lb jsa)) hn0)
        have C0 := Lib.hid (C0.out.put jsa)
        have C1 := Lib.hid (C1.out.far (nmA (lb jsa)) (fun e => hd01 e.symm))
        generalize W.setRow q15 (nmA (lb jsa)) = ws0 at HE C0 C1 ⊢
        simp only [Act.put, set1, set2, set3]
        refine wpAnyH_ready (rs := [11]) (by kernel_rfl) (by simp) ?_
        refine storeH rfl rfl rfl 50 _ _ rfl q16 (nmA (lb jsb)) (by kernel_rfl) (by kernel_rfl) 50 _ C1.out (by kernel_rfl) (by first | rw [nmA_size, nmA_size] | rfl) (nmA_one _) (HE.out.far _ hn1) ?_ AllReadyH.nil
        have HE := Lib.hid (HE.out.far (nmA (lb jsb)) hn1)
        have C0 := Lib.hid (C0.out.far (nmA (lb jsb)) hd01)
        have C1 := Lib.hid (C1.out.put jsb)
        generalize ws0.setRow q16 (nmA (lb jsb)) = ws1 at HE C0 C1 ⊢
        simp only [Act.put, set1, set2, set3]
        refine wpAnyH_done (by kernel_rfl) ?_ _
        have HM := Lib.hid ((((HE.out).add (Nat.le_trans HE.out.base hn1) (HE.out.old hn1) C1.out)).add (Nat.le_trans HE.out.base hn0) (new_cons (HE.out.old hn0) hd01) C0.out)
        clear HE C0 hn0 hc0 C1 hn1 hc1 hd01
        generalize ws1.heap.size = n1 at HM
        generalize ws1 = wz at HM ⊢
        go_upto_region 15 with (fail)
        have hSd := HM.out.drew
        clear HM
        refine wp_region_held (S := fun u => Env 50 w u n1 [(q15, jsa), (q16, jsb), (q8, jA3), (q9, jC3), (q10, jA2), (q11, jC2), (g7, ja), (g6, j1), ((w.heap.size + 2), 0), ((w.heap.size + 1), jx), (w.heap.size, E)]) (by kernel_rfl) ?_
        change wpAnyH _ _ _ _ _ _ _ _ wz.drew
        have HSx := Lib.hid hSd
        clear hSd
        generalize wz.drew = wd at HSx ⊢
        refine takeH (i := 0) (some 62) (.int .i64 2) rfl rfl rfl (by kernel_rfl) (by kernel_rfl) (by kernel_rfl) (fun _ _ _ h => h) (fun w _ => by go_simp) HSx.out ?_
        simp only [Act.put, set1, set2, set3]
        refine takeH (i := 1) (some 63) (.agg (nmA (lb jsa))) rfl rfl rfl (by kernel_rfl) (by kernel_rfl) (by kernel_rfl) (fun _ _ _ h => h) (load_row 50 _ rfl q15 (by kernel_rfl) 50 (nmA (lb jsa)) (0, 0) _ Try.underlying50 rfl (by kernel_rfl) (fun w h => h.get 0 rfl)) HSx.out ?_
        simp only [Act.put, set1, set2, set3]
        refine takeH (i := 2) (some 64) (.agg (nmA (lb jsa))) rfl rfl rfl (by kernel_rfl) (by kernel_rfl) (by kernel_rfl) (fun _ _ _ h => h) (load_row 50 _ rfl q15 (by kernel_rfl) 50 (nmA (lb jsa)) (0, 0) _ Try.underlying50 rfl (by kernel_rfl) (fun w h => h.get 0 rfl)) HSx.out ?_
        simp only [Act.put, set1, set2, set3]
        refine takeH (i := 4) (some 66) (.int .i64 2) rfl rfl rfl (by kernel_rfl) (by kernel_rfl) (by kernel_rfl) (fun _ _ _ h => h) (fun w _ => by go_simp) HSx.out ?_
        simp only [Act.put, set1, set2, set3]
        refine takeH (i := 5) (some 67) (.agg (nmA (lb jsb))) rfl rfl rfl (by kernel_rfl) (by kernel_rfl) (by kernel_rfl) (fun _ _ _ h => h) (load_row 50 _ rfl q16 (by kernel_rfl) 50 (nmA (lb jsb)) (0, 0) _ Try.underlying50 rfl (by kernel_rfl) (fun w h => h.get 1 rfl)) HSx.out ?_
        simp only [Act.put, set1, set2, set3]
        refine takeH (i := 6) (some 68) (.agg (nmA (lb jsb))) rfl rfl rfl (by kernel_rfl) (by kernel_rfl) (by kernel_rfl) (fun _ _ _ h => h) (load_row 50 _ rfl q16 (by kernel_rfl) 50 (nmA (lb jsb)) (0, 0) _ Try.underlying50 rfl (by kernel_rfl) (fun w h => h.get 1 rfl)) HSx.out ?_
        simp only [Act.put, set1, set2, set3]
        refine meetH (fun (x : Nat × Nat) a => ((((a.put (some 65) (nmV jaa)).put (some 69) (nmV jbb)).put (some 17) (.pointer (some ⟨x.1, 0, none⟩))).put (some 18) (.pointer (some ⟨x.2, 0, none⟩)))) #[true, true, true, true, true, true, true, true, true, true, false, false] 2 (fun (x : Nat × Nat) W => (Env 50 w W n1 [(q15, jsa), (q16, jsb), (q8, jA3), (q9, jC3), (q10, jA2), (q11, jC2), (g7, ja), (g6, j1), ((w.heap.size + 2), 0), ((w.heap.size + 1), jx), (w.heap.size, E)]) ∧ (n1 ≤ x.1 ∧ Cell 50 W x.1 0) ∧ (n1 ≤ x.2 ∧ Cell 50 W x.2 0) ∧ (¬ x.1 = x.2)) ?_ (fun key2_010 => ?_)
        rotate_left
        · simp only [Act.put, set1, set2, set3] at key2_010
          have key2_01 := Lib.hid key2_010
          clear key2_010
          refine meetH (fun (x : Nat × Nat) a => (((a.put (some 65) (nmV jaa)).put (some 17) (.pointer (some ⟨x.1, 0, none⟩))).put (some 18) (.pointer (some ⟨x.2, 0, none⟩)))) #[true, true, true, true, true, true, true, false, true, true, false, false] 3 (fun (x : Nat × Nat) W => (Env 50 w W n1 [(q15, jsa), (q16, jsb), (q8, jA3), (q9, jC3), (q10, jA2), (q11, jC2), (g7, ja), (g6, j1), ((w.heap.size + 2), 0), ((w.heap.size + 1), jx), (w.heap.size, E)]) ∧ (n1 ≤ x.1 ∧ Cell 50 W x.1 0) ∧ (n1 ≤ x.2 ∧ Cell 50 W x.2 0) ∧ (¬ x.1 = x.2)) ?_ (fun key1_010 => ?_)
          · rintro ⟨q17, q18⟩ W ⟨hS, ⟨hn0, hc0⟩, ⟨hn1, hc1⟩, hd01⟩
            simp only [Act.put, set1, set2, set3]
            refine wpAnyH_ready (rs := [7]) (by kernel_rfl) (by simp) ?_
            refine callH (some 69) rfl rfl rfl 36 _ _ rfl (fun _ _ => by go_simp) #[.int .i64 2, nmV jsb, nmV jsb] (by kernel_rfl) ?_ AllReadyH.nil
            · refine (Kbb.out W).mono ?_
              rintro e u ⟨rfl, hb⟩
              refine ⟨_, rfl, hS.on hb, ?_⟩
              simp only [Act.put, set1, set2, set3]
              exact key2_01.out (q17, q18) _ ⟨hS.on hb, ⟨hn0, hc0.on hb⟩, ⟨hn1, hc1.on hb⟩, hd01⟩
          simp only [Act.put, set1, set2, set3] at key1_010
          have key1_01 := Lib.hid key1_010
          clear key1_010
          refine meetH (fun (x : Nat × Nat) a => (((a.put (some 65) (nmV jaa)).put (some 69) (nmV jbb)).put (some 17) (.pointer (some ⟨x.1, 0, none⟩)))) #[true, true, true, true, true, true, true, true, true, false, false, false] 3 (fun (x : Nat × Nat) W => (Env 50 w W n1 [(q15, jsa), (q16, jsb), (q8, jA3), (q9, jC3), (q10, jA2), (q11, jC2), (g7, ja), (g6, j1), ((w.heap.size + 2), 0), ((w.heap.size + 1), jx), (w.heap.size, E)]) ∧ (n1 ≤ x.1 ∧ Cell 50 W x.1 0)) ?_ (fun key2_00 => ?_)
          · rintro ⟨q17, q18⟩ W ⟨hS, ⟨hn0, hc0⟩⟩
            simp only [Act.put, set1, set2, set3]
            refine wpAnyH_ready (rs := [9]) (by kernel_rfl) (by simp) ?_
            refine allocH (some 18) rfl rfl rfl 50 rfl (nmA (lb 0)) alloc_0 (hS.alloc _) ?_ AllReadyH.nil
            · simp only [Act.put, set1, set2, set3]
              exact key2_01.out (q17, W.heap.size) _ ⟨hS.alloc _, ⟨hn0, hc0.alloc _⟩, ⟨hS.size, Cell.new _ _ 0⟩, (fun (e : q17 = W.heap.size) => by have h : q17 < W.heap.size := hc0.lt; omega)⟩
          simp only [Act.put, set1, set2, set3] at key2_00
          have key2_0 := Lib.hid key2_00
          clear key2_00
          refine meetH (fun (x : Nat × Nat) a => (((a.put (some 65) (nmV jaa)).put (some 69) (nmV jbb)).put (some 18) (.pointer (some ⟨x.2, 0, none⟩)))) #[true, true, true, true, true, true, true, true, false, true, false, false] 3 (fun (x : Nat × Nat) W => (Env 50 w W n1 [(q15, jsa), (q16, jsb), (q8, jA3), (q9, jC3), (q10, jA2), (q11, jC2), (g7, ja), (g6, j1), ((w.heap.size + 2), 0), ((w.heap.size + 1), jx), (w.heap.size, E)]) ∧ (n1 ≤ x.2 ∧ Cell 50 W x.2 0)) ?_ (fun key2_10 => ?_)
          · rintro ⟨q17, q18⟩ W ⟨hS, ⟨hn1, hc1⟩⟩
            simp only [Act.put, set1, set2, set3]
            refine wpAnyH_ready (rs := [8]) (by kernel_rfl) (by simp) ?_
            refine allocH (some 17) rfl rfl rfl 50 rfl (nmA (lb 0)) alloc_0 (hS.alloc _) ?_ AllReadyH.nil
            · simp only [Act.put, set1, set2, set3]
              exact key2_01.out (W.heap.size, q18) _ ⟨hS.alloc _, ⟨hS.size, Cell.new _ _ 0⟩, ⟨hn1, hc1.alloc _⟩, (fun (e : W.heap.size = q18) => by have h : q18 < W.heap.size := hc1.lt; omega)⟩
          simp only [Act.put, set1, set2, set3] at key2_10
          have key2_1 := Lib.hid key2_10
          clear key2_10
          refine meetH (fun (x : Nat × Nat) a => ((a.put (some 17) (.pointer (some ⟨x.1, 0, none⟩))).put (some 18) (.pointer (some ⟨x.2, 0, none⟩)))) #[true, true, true, false, true, true, true, false, true, true, false, false] 4 (fun (x : Nat × Nat) W => (Env 50 w W n1 [(q15, jsa), (q16, jsb), (q8, jA3), (q9, jC3), (q10, jA2), (q11, jC2), (g7, ja), (g6, j1), ((w.heap.size + 2), 0), ((w.heap.size + 1), jx), (w.heap.size, E)]) ∧ (n1 ≤ x.1 ∧ Cell 50 W x.1 0) ∧ (n1 ≤ x.2 ∧ Cell 50 W x.2 0) ∧ (¬ x.1 = x.2)) ?_ (fun key0_010 => ?_)
          · rintro ⟨q17, q18⟩ W ⟨hS, ⟨hn0, hc0⟩, ⟨hn1, hc1⟩, hd01⟩
            simp only [Act.put, set1, set2, set3]
            refine wpAnyH_ready (rs := [3]) (by kernel_rfl) (by simp) ?_
            refine callH (some 65) rfl rfl rfl 36 _ _ rfl (fun _ _ => by go_simp) #[.int .i64 2, nmV jsa, nmV jsa] (by kernel_rfl) ?_ AllReadyH.nil
            · refine (Kaa.out W).mono ?_
              rintro e u ⟨rfl, hb⟩
              refine ⟨_, rfl, hS.on hb, ?_⟩
              simp only [Act.put, set1, set2, set3]
              exact key1_01.out (q17, q18) _ ⟨hS.on hb, ⟨hn0, hc0.on hb⟩, ⟨hn1, hc1.on hb⟩, hd01⟩
          simp only [Act.put, set1, set2, set3] at key0_010
          have key0_01 := Lib.hid key0_010
          clear key0_010
          refine meetH (fun (x : Nat × Nat) a => ((a.put (some 65) (nmV jaa)).put (some 17) (.pointer (some ⟨x.1, 0, none⟩)))) #[true, true, true, true, true, true, true, false, true, false, false, false] 4 (fun (x : Nat × Nat) W => (Env 50 w W n1 [(q15, jsa), (q16, jsb), (q8, jA3), (q9, jC3), (q10, jA2), (q11, jC2), (g7, ja), (g6, j1), ((w.heap.size + 2), 0), ((w.heap.size + 1), jx), (w.heap.size, E)]) ∧ (n1 ≤ x.1 ∧ Cell 50 W x.1 0)) ?_ (fun key1_00 => ?_)
          · rintro ⟨q17, q18⟩ W ⟨hS, ⟨hn0, hc0⟩⟩
            simp only [Act.put, set1, set2, set3]
            refine wpAnyH_ready (rs := [7, 9]) (by kernel_rfl) (by simp) ?_
            refine callH (some 69) rfl rfl rfl 36 _ _ rfl (fun _ _ => by go_simp) #[.int .i64 2, nmV jsb, nmV jsb] (by kernel_rfl) ?_ (allocH (some 18) rfl rfl rfl 50 rfl (nmA (lb 0)) alloc_0 (hS.alloc _) ?_ AllReadyH.nil)
            · refine (Kbb.out W).mono ?_
              rintro e u ⟨rfl, hb⟩
              refine ⟨_, rfl, hS.on hb, ?_⟩
              simp only [Act.put, set1, set2, set3]
              exact key2_0.out (q17, 0) _ ⟨hS.on hb, ⟨hn0, hc0.on hb⟩⟩
            · simp only [Act.put, set1, set2, set3]
              exact key1_01.out (q17, W.heap.size) _ ⟨hS.alloc _, ⟨hn0, hc0.alloc _⟩, ⟨hS.size, Cell.new _ _ 0⟩, (fun (e : q17 = W.heap.size) => by have h : q17 < W.heap.size := hc0.lt; omega)⟩
          simp only [Act.put, set1, set2, set3] at key1_00
          have key1_0 := Lib.hid key1_00
          clear key1_00
          refine meetH (fun (x : Nat × Nat) a => ((a.put (some 65) (nmV jaa)).put (some 18) (.pointer (some ⟨x.2, 0, none⟩)))) #[true, true, true, true, true, true, true, false, false, true, false, false] 4 (fun (x : Nat × Nat) W => (Env 50 w W n1 [(q15, jsa), (q16, jsb), (q8, jA3), (q9, jC3), (q10, jA2), (q11, jC2), (g7, ja), (g6, j1), ((w.heap.size + 2), 0), ((w.heap.size + 1), jx), (w.heap.size, E)]) ∧ (n1 ≤ x.2 ∧ Cell 50 W x.2 0)) ?_ (fun key1_10 => ?_)
          · rintro ⟨q17, q18⟩ W ⟨hS, ⟨hn1, hc1⟩⟩
            simp only [Act.put, set1, set2, set3]
            refine wpAnyH_ready (rs := [7, 8]) (by kernel_rfl) (by simp) ?_
            refine callH (some 69) rfl rfl rfl 36 _ _ rfl (fun _ _ => by go_simp) #[.int .i64 2, nmV jsb, nmV jsb] (by kernel_rfl) ?_ (allocH (some 17) rfl rfl rfl 50 rfl (nmA (lb 0)) alloc_0 (hS.alloc _) ?_ AllReadyH.nil)
            · refine (Kbb.out W).mono ?_
              rintro e u ⟨rfl, hb⟩
              refine ⟨_, rfl, hS.on hb, ?_⟩
              simp only [Act.put, set1, set2, set3]
              exact key2_1.out (0, q18) _ ⟨hS.on hb, ⟨hn1, hc1.on hb⟩⟩
            · simp only [Act.put, set1, set2, set3]
              exact key1_01.out (W.heap.size, q18) _ ⟨hS.alloc _, ⟨hS.size, Cell.new _ _ 0⟩, ⟨hn1, hc1.alloc _⟩, (fun (e : W.heap.size = q18) => by have h : q18 < W.heap.size := hc1.lt; omega)⟩
          simp only [Act.put, set1, set2, set3] at key1_10
          have key1_1 := Lib.hid key1_10
          clear key1_10
          refine meetH (fun (x : Nat × Nat) a => ((a.put (some 65) (nmV jaa)).put (some 69) (nmV jbb))) #[true, true, true, true, true, true, true, true, false, false, false, false] 4 (fun (x : Nat × Nat) W => (Env 50 w W n1 [(q15, jsa), (q16, jsb), (q8, jA3), (q9, jC3), (q10, jA2), (q11, jC2), (g7, ja), (g6, j1), ((w.heap.size + 2), 0), ((w.heap.size + 1), jx), (w.heap.size, E)])) ?_ (fun key2_0 => ?_)
          · rintro ⟨q17, q18⟩ W hS
            simp only [Act.put, set1, set2, set3]
            refine wpAnyH_ready (rs := [8, 9]) (by kernel_rfl) (by simp) ?_
            refine allocH (some 17) rfl rfl rfl 50 rfl (nmA (lb 0)) alloc_0 (hS.alloc _) ?_ (allocH (some 18) rfl rfl rfl 50 rfl (nmA (lb 0)) alloc_0 (hS.alloc _) ?_ AllReadyH.nil)
            · simp only [Act.put, set1, set2, set3]
              exact key2_0.out (W.heap.size, 0) _ ⟨hS.alloc _, ⟨hS.size, Cell.new _ _ 0⟩⟩
            · simp only [Act.put, set1, set2, set3]
              exact key2_1.out (0, W.heap.size) _ ⟨hS.alloc _, ⟨hS.size, Cell.new _ _ 0⟩⟩
          simp only [Act.put, set1, set2, set3] at key2_0
          have key2_ := Lib.hid key2_0
          clear key2_0
          refine meetH (fun (x : Nat × Nat) a => (a.put (some 17) (.pointer (some ⟨x.1, 0, none⟩)))) #[true, true, true, false, true, true, true, false, true, false, false, false] 5 (fun (x : Nat × Nat) W => (Env 50 w W n1 [(q15, jsa), (q16, jsb), (q8, jA3), (q9, jC3), (q10, jA2), (q11, jC2), (g7, ja), (g6, j1), ((w.heap.size + 2), 0), ((w.heap.size + 1), jx), (w.heap.size, E)]) ∧ (n1 ≤ x.1 ∧ Cell 50 W x.1 0)) ?_ (fun key0_00 => ?_)
          · rintro ⟨q17, q18⟩ W ⟨hS, ⟨hn0, hc0⟩⟩
            simp only [Act.put, set1, set2, set3]
            refine wpAnyH_ready (rs := [3, 9]) (by kernel_rfl) (by simp) ?_
            refine callH (some 65) rfl rfl rfl 36 _ _ rfl (fun _ _ => by go_simp) #[.int .i64 2, nmV jsa, nmV jsa] (by kernel_rfl) ?_ (allocH (some 18) rfl rfl rfl 50 rfl (nmA (lb 0)) alloc_0 (hS.alloc _) ?_ AllReadyH.nil)
            · refine (Kaa.out W).mono ?_
              rintro e u ⟨rfl, hb⟩
              refine ⟨_, rfl, hS.on hb, ?_⟩
              simp only [Act.put, set1, set2, set3]
              exact key1_0.out (q17, 0) _ ⟨hS.on hb, ⟨hn0, hc0.on hb⟩⟩
            · simp only [Act.put, set1, set2, set3]
              exact key0_01.out (q17, W.heap.size) _ ⟨hS.alloc _, ⟨hn0, hc0.alloc _⟩, ⟨hS.size, Cell.new _ _ 0⟩, (fun (e : q17 = W.heap.size) => by have h : q17 < W.heap.size := hc0.lt; omega)⟩
          simp only [Act.put, set1, set2, set3] at key0_00
          have key0_0 := Lib.hid key0_00
          clear key0_00
          refine meetH (fun (x : Nat × Nat) a => (a.put (some 18) (.pointer (some ⟨x.2, 0, none⟩)))) #[true, true, true, false, true, true, true, false, false, true, false, false] 5 (fun (x : Nat × Nat) W => (Env 50 w W n1 [(q15, jsa), (q16, jsb), (q8, jA3), (q9, jC3), (q10, jA2), (q11, jC2), (g7, ja), (g6, j1), ((w.heap.size + 2), 0), ((w.heap.size + 1), jx), (w.heap.size, E)]) ∧ (n1 ≤ x.2 ∧ Cell 50 W x.2 0)) ?_ (fun key0_10 => ?_)
          · rintro ⟨q17, q18⟩ W ⟨hS, ⟨hn1, hc1⟩⟩
            simp only [Act.put, set1, set2, set3]
            refine wpAnyH_ready (rs := [3, 8]) (by kernel_rfl) (by simp) ?_
            refine callH (some 65) rfl rfl rfl 36 _ _ rfl (fun _ _ => by go_simp) #[.int .i64 2, nmV jsa, nmV jsa] (by kernel_rfl) ?_ (allocH (some 17) rfl rfl rfl 50 rfl (nmA (lb 0)) alloc_0 (hS.alloc _) ?_ AllReadyH.nil)
            · refine (Kaa.out W).mono ?_
              rintro e u ⟨rfl, hb⟩
              refine ⟨_, rfl, hS.on hb, ?_⟩
              simp only [Act.put, set1, set2, set3]
              exact key1_1.out (0, q18) _ ⟨hS.on hb, ⟨hn1, hc1.on hb⟩⟩
            · simp only [Act.put, set1, set2, set3]
              exact key0_01.out (W.heap.size, q18) _ ⟨hS.alloc _, ⟨hS.size, Cell.new _ _ 0⟩, ⟨hn1, hc1.alloc _⟩, (fun (e : W.heap.size = q18) => by have h : q18 < W.heap.size := hc1.lt; omega)⟩
          simp only [Act.put, set1, set2, set3] at key0_10
          have key0_1 := Lib.hid key0_10
          clear key0_10
          refine meetH (fun (x : Nat × Nat) a => (a.put (some 65) (nmV jaa))) #[true, true, true, true, true, true, true, false, false, false, false, false] 5 (fun (x : Nat × Nat) W => (Env 50 w W n1 [(q15, jsa), (q16, jsb), (q8, jA3), (q9, jC3), (q10, jA2), (q11, jC2), (g7, ja), (g6, j1), ((w.heap.size + 2), 0), ((w.heap.size + 1), jx), (w.heap.size, E)])) ?_ (fun key1_0 => ?_)
          · rintro ⟨q17, q18⟩ W hS
            simp only [Act.put, set1, set2, set3]
            refine wpAnyH_ready (rs := [7, 8, 9]) (by kernel_rfl) (by simp) ?_
            refine callH (some 69) rfl rfl rfl 36 _ _ rfl (fun _ _ => by go_simp) #[.int .i64 2, nmV jsb, nmV jsb] (by kernel_rfl) ?_ (allocH (some 17) rfl rfl rfl 50 rfl (nmA (lb 0)) alloc_0 (hS.alloc _) ?_ (allocH (some 18) rfl rfl rfl 50 rfl (nmA (lb 0)) alloc_0 (hS.alloc _) ?_ AllReadyH.nil))
            · refine (Kbb.out W).mono ?_
              rintro e u ⟨rfl, hb⟩
              refine ⟨_, rfl, hS.on hb, ?_⟩
              simp only [Act.put, set1, set2, set3]
              exact key2_.out (0, 0) _ (hS.on hb)
            · simp only [Act.put, set1, set2, set3]
              exact key1_0.out (W.heap.size, 0) _ ⟨hS.alloc _, ⟨hS.size, Cell.new _ _ 0⟩⟩
            · simp only [Act.put, set1, set2, set3]
              exact key1_1.out (0, W.heap.size) _ ⟨hS.alloc _, ⟨hS.size, Cell.new _ _ 0⟩⟩
          simp only [Act.put, set1, set2, set3] at key1_0
          have key1_ := Lib.hid key1_0
          clear key1_0
          refine wpAnyH_ready (rs := [3, 8, 9]) (by kernel_rfl) (by simp) ?_
          refine callH (some 65) rfl rfl rfl 36 _ _ rfl (fun _ _ => by go_simp) #[.int .i64 2, nmV jsa, nmV jsa] (by kernel_rfl) ?_ (allocH (some 17) rfl rfl rfl 50 rfl (nmA (lb 0)) alloc_0 (HSx.out.alloc _) ?_ (allocH (some 18) rfl rfl rfl 50 rfl (nmA (lb 0)) alloc_0 (HSx.out.alloc _) ?_ AllReadyH.nil))
          · refine (Kaa.out wd).mono ?_
            rintro e u ⟨rfl, hb⟩
            refine ⟨_, rfl, HSx.out.on hb, ?_⟩
            simp only [Act.put, set1, set2, set3]
            exact key1_.out (0, 0) _ (HSx.out.on hb)
          · simp only [Act.put, set1, set2, set3]
            exact key0_0.out (wd.heap.size, 0) _ ⟨HSx.out.alloc _, ⟨HSx.out.size, Cell.new _ _ 0⟩⟩
          · simp only [Act.put, set1, set2, set3]
            exact key0_1.out (0, wd.heap.size) _ ⟨HSx.out.alloc _, ⟨HSx.out.size, Cell.new _ _ 0⟩⟩
        rintro ⟨q17, q18⟩ W ⟨hS, ⟨hn0, hc0⟩, ⟨hn1, hc1⟩, hd01⟩
        simp only [Act.put, set1, set2, set3]
        have HE := Lib.hid hS
        have C0 := Lib.hid hc0
        have C1 := Lib.hid hc1
        refine wpAnyH_ready (rs := [10]) (by kernel_rfl) (by simp) ?_
        refine storeH rfl rfl rfl 50 _ _ rfl q17 (nmA (lb jaa)) (by kernel_rfl) (by kernel_rfl) 50 _ C0.out (by kernel_rfl) (by first | rw [nmA_size, nmA_size] | rfl) (nmA_one _) (HE.out.far _ hn0) ?_ AllReadyH.nil
        have HE := Lib.hid (HE.out.far (nmA (lb jaa)) hn0)
        have C0 := Lib.hid (C0.out.put jaa)
        have C1 := Lib.hid (C1.out.far (nmA (lb jaa)) (fun e => hd01 e.symm))
        generalize W.setRow q17 (nmA (lb jaa)) = ws0 at HE C0 C1 ⊢
        simp only [Act.put, set1, set2, set3]
        refine wpAnyH_ready (rs := [11]) (by kernel_rfl) (by simp) ?_
        refine storeH rfl rfl rfl 50 _ _ rfl q18 (nmA (lb jbb)) (by kernel_rfl) (by kernel_rfl) 50 _ C1.out (by kernel_rfl) (by first | rw [nmA_size, nmA_size] | rfl) (nmA_one _) (HE.out.far _ hn1) ?_ AllReadyH.nil
        have HE := Lib.hid (HE.out.far (nmA (lb jbb)) hn1)
        have C0 := Lib.hid (C0.out.far (nmA (lb jbb)) hd01)
        have C1 := Lib.hid (C1.out.put jbb)
        generalize ws0.setRow q18 (nmA (lb jbb)) = ws1 at HE C0 C1 ⊢
        simp only [Act.put, set1, set2, set3]
        refine wpAnyH_done (by kernel_rfl) ?_ _
        have HM := Lib.hid ((((HE.out).add (Nat.le_trans HE.out.base hn1) (HE.out.old hn1) C1.out)).add (Nat.le_trans HE.out.base hn0) (new_cons (HE.out.old hn0) hd01) C0.out)
        clear HE C0 hn0 hc0 C1 hn1 hc1 hd01
        generalize ws1.heap.size = n2 at HM
        generalize ws1 = wz at HM ⊢
        go_upto_region 16 with (fail)
        apply wp_region_lit
        refine Lw.wpList_val rfl (.int .i64 2) wz (by go_simp) ?_
        refine wpList_load_row rfl 50 _ rfl q17 (by kernel_rfl) 50 (nmA (lb jaa)) (0, 0) _ (HM.out.get 0 rfl) Try.underlying50 rfl (by kernel_rfl) ?_
        refine wpList_load_row rfl 50 _ rfl q18 (by kernel_rfl) 50 (nmA (lb jbb)) (0, 0) _ (HM.out.get 1 rfl) Try.underlying50 rfl (by kernel_rfl) ?_
        simp only [Act.put, set1, set2, set3]
        refine Lw.wpList_callTo (some 73) rfl rfl 35 _ _ rfl (fun _ _ => by go_simp) #[.int .i64 2, nmV jaa, nmV jbb] (by kernel_rfl) ?_
        refine (Kdd.out wz).mono ?_
        rintro e ul ⟨rfl, hb⟩
        refine ⟨_, rfl, ?_⟩
        have HM := Lib.hid (HM.out.on hb)
        clear hb
        simp only [Act.put, set1, set2, set3]
        refine wpList_alloc_to rfl 50 rfl (nmA (lb 0)) ul.heap.size rfl alloc_0 ?_
        simp only [Act.put, set1, set2, set3]
        refine wpList_store_row rfl 50 _ _ rfl ul.heap.size (nmA (lb jdd)) (by kernel_rfl) (by kernel_rfl) 50 _ (heap_alloc_last _ _) (by kernel_rfl) (by rw [nmA_size, nmA_size]) (nmA_one _) ?_
        rw [World.setRow_alloc_new]
        simp only [Act.put]
        have HM := Lib.hid ((HM.out.alloc (.cells (nmA (lb jdd)) 50)).cons (HM.out.size) (Cell.new 50 ul jdd))
        generalize ul.alloc (.cells (nmA (lb jdd)) 50) = wl at HM ⊢
        generalize ul.heap.size = q19 at HM ⊢
        generalize q19 + 1 = n3 at HM
        go_upto_region 17 with (fail)
        have hSd := HM.out.drew
        clear HM
        refine wp_region_held (S := fun u => Env 50 w u n3 [(q19, jdd), (q17, jaa), (q18, jbb), (q15, jsa), (q16, jsb), (q8, jA3), (q9, jC3), (q10, jA2), (q11, jC2), (g7, ja), (g6, j1), ((w.heap.size + 2), 0), ((w.heap.size + 1), jx), (w.heap.size, E)]) (by kernel_rfl) ?_
        change wpAnyH _ _ _ _ _ _ _ _ wl.drew
        have HSx := Lib.hid hSd
        clear hSd
        generalize wl.drew = wd at HSx ⊢
        refine takeH (i := 0) (some 74) (.int .i64 2) rfl rfl rfl (by kernel_rfl) (by kernel_rfl) (by kernel_rfl) (fun _ _ _ h => h) (fun w _ => by go_simp) HSx.out ?_
        simp only [Act.put, set1, set2, set3]
        refine takeH (i := 1) (some 75) (.int .i64 2) rfl rfl rfl (by kernel_rfl) (by kernel_rfl) (by kernel_rfl) (fun _ _ _ h => h) (fun w _ => by go_simp) HSx.out ?_
        simp only [Act.put, set1, set2, set3]
        refine takeH (i := 2) (some 76) (.agg (nmA (lb jA2))) rfl rfl rfl (by kernel_rfl) (by kernel_rfl) (by kernel_rfl) (fun _ _ _ h => h) (load_row 50 _ rfl q10 (by kernel_rfl) 50 (nmA (lb jA2)) (0, 0) _ Try.underlying50 rfl (by kernel_rfl) (fun w h => h.get 7 rfl)) HSx.out ?_
        simp only [Act.put, set1, set2, set3]
        refine takeH (i := 3) (some 77) (.agg (nmA (lb jC2))) rfl rfl rfl (by kernel_rfl) (by kernel_rfl) (by kernel_rfl) (fun _ _ _ h => h) (load_row 50 _ rfl q11 (by kernel_rfl) 50 (nmA (lb jC2)) (0, 0) _ Try.underlying50 rfl (by kernel_rfl) (fun w h => h.get 8 rfl)) HSx.out ?_
        simp only [Act.put, set1, set2, set3]
        refine takeH (i := 5) (some 79) (.agg (nmA (lb jsa))) rfl rfl rfl (by kernel_rfl) (by kernel_rfl) (by kernel_rfl) (fun _ _ _ h => h) (load_row 50 _ rfl q15 (by kernel_rfl) 50 (nmA (lb jsa)) (0, 0) _ Try.underlying50 rfl (by kernel_rfl) (fun w h => h.get 3 rfl)) HSx.out ?_
        simp only [Act.put, set1, set2, set3]
        refine takeH (i := 7) (some 81) (.int .i64 2) rfl rfl rfl (by kernel_rfl) (by kernel_rfl) (by kernel_rfl) (fun _ _ _ h => h) (fun w _ => by go_simp) HSx.out ?_
        simp only [Act.put, set1, set2, set3]
        refine takeH (i := 8) (some 82) (.int .i64 2) rfl rfl rfl (by kernel_rfl) (by kernel_rfl) (by kernel_rfl) (fun _ _ _ h => h) (fun w _ => by go_simp) HSx.out ?_
        simp only [Act.put, set1, set2, set3]
        refine takeH (i := 9) (some 83) (.agg (nmA (lb jA2))) rfl rfl rfl (by kernel_rfl) (by kernel_rfl) (by kernel_rfl) (fun _ _ _ h => h) (load_row 50 _ rfl q10 (by kernel_rfl) 50 (nmA (lb jA2)) (0, 0) _ Try.underlying50 rfl (by kernel_rfl) (fun w h => h.get 7 rfl)) HSx.out ?_
        simp only [Act.put, set1, set2, set3]
        refine takeH (i := 10) (some 84) (.agg (nmA (lb jC2))) rfl rfl rfl (by kernel_rfl) (by kernel_rfl) (by kernel_rfl) (fun _ _ _ h => h) (load_row 50 _ rfl q11 (by kernel_rfl) 50 (nmA (lb jC2)) (0, 0) _ Try.underlying50 rfl (by kernel_rfl) (fun w h => h.get 8 rfl)) HSx.out ?_
        simp only [Act.put, set1, set2, set3]
        refine takeH (i := 12) (some 86) (.agg (nmA (lb jsb))) rfl rfl rfl (by kernel_rfl) (by kernel_rfl) (by kernel_rfl) (fun _ _ _ h => h) (load_row 50 _ rfl q16 (by kernel_rfl) 50 (nmA (lb jsb)) (0, 0) _ Try.underlying50 rfl (by kernel_rfl) (fun w h => h.get 4 rfl)) HSx.out ?_
        simp only [Act.put, set1, set2, set3]
        refine meetH (fun (x : Nat × Nat) a => ((((((a.put (some 78) (nmV jea)).put (some 80) (nmV jda)).put (some 85) (nmV jeb)).put (some 87) (nmV jcb)).put (some 20) (.pointer (some ⟨x.1, 0, none⟩))).put (some 21) (.pointer (some ⟨x.2, 0, none⟩)))) #[true, true, true, true, true, true, true, true, true, true, true, true, true, true, true, true, false, false] 2 (fun (x : Nat × Nat) W => (Env 50 w W n3 [(q19, jdd), (q17, jaa), (q18, jbb), (q15, jsa), (q16, jsb), (q8, jA3), (q9, jC3), (q10, jA2), (q11, jC2), (g7, ja), (g6, j1), ((w.heap.size + 2), 0), ((w.heap.size + 1), jx), (w.heap.size, E)]) ∧ (n3 ≤ x.1 ∧ Cell 50 W x.1 0) ∧ (n3 ≤ x.2 ∧ Cell 50 W x.2 0) ∧ (¬ x.1 = x.2)) ?_ (fun key4_010 => ?_)
        rotate_left
        · simp only [Act.put, set1, set2, set3] at key4_010
          have key4_01 := Lib.hid key4_010
          clear key4_010
          refine meetH (fun (x : Nat × Nat) a => (((((a.put (some 78) (nmV jea)).put (some 80) (nmV jda)).put (some 85) (nmV jeb)).put (some 20) (.pointer (some ⟨x.1, 0, none⟩))).put (some 21) (.pointer (some ⟨x.2, 0, none⟩)))) #[true, true, true, true, true, true, true, true, true, true, true, true, true, false, true, true, false, false] 3 (fun (x : Nat × Nat) W => (Env 50 w W n3 [(q19, jdd), (q17, jaa), (q18, jbb), (q15, jsa), (q16, jsb), (q8, jA3), (q9, jC3), (q10, jA2), (q11, jC2), (g7, ja), (g6, j1), ((w.heap.size + 2), 0), ((w.heap.size + 1), jx), (w.heap.size, E)]) ∧ (n3 ≤ x.1 ∧ Cell 50 W x.1 0) ∧ (n3 ≤ x.2 ∧ Cell 50 W x.2 0) ∧ (¬ x.1 = x.2)) ?_ (fun key3_010 => ?_)
          · rintro ⟨q20, q21⟩ W ⟨hS, ⟨hn0, hc0⟩, ⟨hn1, hc1⟩, hd01⟩
            simp only [Act.put, set1, set2, set3]
            refine wpAnyH_ready (rs := [13]) (by kernel_rfl) (by simp) ?_
            refine callH (some 87) rfl rfl rfl 36 _ _ rfl (fun _ _ => by go_simp) #[.int .i64 2, nmV jeb, nmV jsb] (by kernel_rfl) ?_ AllReadyH.nil
            · refine (Kcb.out W).mono ?_
              rintro e u ⟨rfl, hb⟩
              refine ⟨_, rfl, hS.on hb, ?_⟩
              simp only [Act.put, set1, set2, set3]
              exact key4_01.out (q20, q21) _ ⟨hS.on hb, ⟨hn0, hc0.on hb⟩, ⟨hn1, hc1.on hb⟩, hd01⟩
          simp only [Act.put, set1, set2, set3] at key3_010
          have key3_01 := Lib.hid key3_010
          clear key3_010
          refine meetH (fun (x : Nat × Nat) a => (((((a.put (some 78) (nmV jea)).put (some 80) (nmV jda)).put (some 85) (nmV jeb)).put (some 87) (nmV jcb)).put (some 20) (.pointer (some ⟨x.1, 0, none⟩)))) #[true, true, true, true, true, true, true, true, true, true, true, true, true, true, true, false, false, false] 3 (fun (x : Nat × Nat) W => (Env 50 w W n3 [(q19, jdd), (q17, jaa), (q18, jbb), (q15, jsa), (q16, jsb), (q8, jA3), (q9, jC3), (q10, jA2), (q11, jC2), (g7, ja), (g6, j1), ((w.heap.size + 2), 0), ((w.heap.size + 1), jx), (w.heap.size, E)]) ∧ (n3 ≤ x.1 ∧ Cell 50 W x.1 0)) ?_ (fun key4_00 => ?_)
          · rintro ⟨q20, q21⟩ W ⟨hS, ⟨hn0, hc0⟩⟩
            simp only [Act.put, set1, set2, set3]
            refine wpAnyH_ready (rs := [15]) (by kernel_rfl) (by simp) ?_
            refine allocH (some 21) rfl rfl rfl 50 rfl (nmA (lb 0)) alloc_0 (hS.alloc _) ?_ AllReadyH.nil
            · simp only [Act.put, set1, set2, set3]
              exact key4_01.out (q20, W.heap.size) _ ⟨hS.alloc _, ⟨hn0, hc0.alloc _⟩, ⟨hS.size, Cell.new _ _ 0⟩, (fun (e : q20 = W.heap.size) => by have h : q20 < W.heap.size := hc0.lt; omega)⟩
          simp only [Act.put, set1, set2, set3] at key4_00
          have key4_0 := Lib.hid key4_00
          clear key4_00
          refine meetH (fun (x : Nat × Nat) a => (((((a.put (some 78) (nmV jea)).put (some 80) (nmV jda)).put (some 85) (nmV jeb)).put (some 87) (nmV jcb)).put (some 21) (.pointer (some ⟨x.2, 0, none⟩)))) #[true, true, true, true, true, true, true, true, true, true, true, true, true, true, false, true, false, false] 3 (fun (x : Nat × Nat) W => (Env 50 w W n3 [(q19, jdd), (q17, jaa), (q18, jbb), (q15, jsa), (q16, jsb), (q8, jA3), (q9, jC3), (q10, jA2), (q11, jC2), (g7, ja), (g6, j1), ((w.heap.size + 2), 0), ((w.heap.size + 1), jx), (w.heap.size, E)]) ∧ (n3 ≤ x.2 ∧ Cell 50 W x.2 0)) ?_ (fun key4_10 => ?_)
          · rintro ⟨q20, q21⟩ W ⟨hS, ⟨hn1, hc1⟩⟩
            simp only [Act.put, set1, set2, set3]
            refine wpAnyH_ready (rs := [14]) (by kernel_rfl) (by simp) ?_
            refine allocH (some 20) rfl rfl rfl 50 rfl (nmA (lb 0)) alloc_0 (hS.alloc _) ?_ AllReadyH.nil
            · simp only [Act.put, set1, set2, set3]
              exact key4_01.out (W.heap.size, q21) _ ⟨hS.alloc _, ⟨hS.size, Cell.new _ _ 0⟩, ⟨hn1, hc1.alloc _⟩, (fun (e : W.heap.size = q21) => by have h : q21 < W.heap.size := hc1.lt; omega)⟩
          simp only [Act.put, set1, set2, set3] at key4_10
          have key4_1 := Lib.hid key4_10
          clear key4_10
          refine meetH (fun (x : Nat × Nat) a => ((((a.put (some 78) (nmV jea)).put (some 80) (nmV jda)).put (some 20) (.pointer (some ⟨x.1, 0, none⟩))).put (some 21) (.pointer (some ⟨x.2, 0, none⟩)))) #[true, true, true, true, true, true, true, true, true, true, true, false, true, false, true, true, false, false] 4 (fun (x : Nat × Nat) W => (Env 50 w W n3 [(q19, jdd), (q17, jaa), (q18, jbb), (q15, jsa), (q16, jsb), (q8, jA3), (q9, jC3), (q10, jA2), (q11, jC2), (g7, ja), (g6, j1), ((w.heap.size + 2), 0), ((w.heap.size + 1), jx), (w.heap.size, E)]) ∧ (n3 ≤ x.1 ∧ Cell 50 W x.1 0) ∧ (n3 ≤ x.2 ∧ Cell 50 W x.2 0) ∧ (¬ x.1 = x.2)) ?_ (fun key2_010 => ?_)
          · rintro ⟨q20, q21⟩ W ⟨hS, ⟨hn0, hc0⟩, ⟨hn1, hc1⟩, hd01⟩
            simp only [Act.put, set1, set2, set3]
            refine wpAnyH_ready (rs := [11]) (by kernel_rfl) (by simp) ?_
            refine callH (some 85) rfl rfl rfl 34 _ _ rfl (fun _ _ => by go_simp) #[.int .i64 2, nmV jA2, nmV jC2] (by kernel_rfl) ?_ AllReadyH.nil
            · refine (Keb.out W).mono ?_
              rintro e u ⟨rfl, hb⟩
              refine ⟨_, rfl, hS.on hb, ?_⟩
              simp only [Act.put, set1, set2, set3]
              exact key3_01.out (q20, q21) _ ⟨hS.on hb, ⟨hn0, hc0.on hb⟩, ⟨hn1, hc1.on hb⟩, hd01⟩
          simp only [Act.put, set1, set2, set3] at key2_010
          have key2_01 := Lib.hid key2_010
          clear key2_010
          refine meetH (fun (x : Nat × Nat) a => ((((a.put (some 78) (nmV jea)).put (some 80) (nmV jda)).put (some 85) (nmV jeb)).put (some 20) (.pointer (some ⟨x.1, 0, none⟩)))) #[true, true, true, true, true, true, true, true, true, true, true, true, true, false, true, false, false, false] 4 (fun (x : Nat × Nat) W => (Env 50 w W n3 [(q19, jdd), (q17, jaa), (q18, jbb), (q15, jsa), (q16, jsb), (q8, jA3), (q9, jC3), (q10, jA2), (q11, jC2), (g7, ja), (g6, j1), ((w.heap.size + 2), 0), ((w.heap.size + 1), jx), (w.heap.size, E)]) ∧ (n3 ≤ x.1 ∧ Cell 50 W x.1 0)) ?_ (fun key3_00 => ?_)
          · rintro ⟨q20, q21⟩ W ⟨hS, ⟨hn0, hc0⟩⟩
            simp only [Act.put, set1, set2, set3]
            refine wpAnyH_ready (rs := [13, 15]) (by kernel_rfl) (by simp) ?_
            refine callH (some 87) rfl rfl rfl 36 _ _ rfl (fun _ _ => by go_simp) #[.int .i64 2, nmV jeb, nmV jsb] (by kernel_rfl) ?_ (allocH (some 21) rfl rfl rfl 50 rfl (nmA (lb 0)) alloc_0 (hS.alloc _) ?_ AllReadyH.nil)
            · refine (Kcb.out W).mono ?_
              rintro e u ⟨rfl, hb⟩
              refine ⟨_, rfl, hS.on hb, ?_⟩
              simp only [Act.put, set1, set2, set3]
              exact key4_0.out (q20, 0) _ ⟨hS.on hb, ⟨hn0, hc0.on hb⟩⟩
            · simp only [Act.put, set1, set2, set3]
              exact key3_01.out (q20, W.heap.size) _ ⟨hS.alloc _, ⟨hn0, hc0.alloc _⟩, ⟨hS.size, Cell.new _ _ 0⟩, (fun (e : q20 = W.heap.size) => by have h : q20 < W.heap.size := hc0.lt; omega)⟩
          simp only [Act.put, set1, set2, set3] at key3_00
          have key3_0 := Lib.hid key3_00
          clear key3_00
          refine meetH (fun (x : Nat × Nat) a => ((((a.put (some 78) (nmV jea)).put (some 80) (nmV jda)).put (some 85) (nmV jeb)).put (some 21) (.pointer (some ⟨x.2, 0, none⟩)))) #[true, true, true, true, true, true, true, true, true, true, true, true, true, false, false, true, false, false] 4 (fun (x : Nat × Nat) W => (Env 50 w W n3 [(q19, jdd), (q17, jaa), (q18, jbb), (q15, jsa), (q16, jsb), (q8, jA3), (q9, jC3), (q10, jA2), (q11, jC2), (g7, ja), (g6, j1), ((w.heap.size + 2), 0), ((w.heap.size + 1), jx), (w.heap.size, E)]) ∧ (n3 ≤ x.2 ∧ Cell 50 W x.2 0)) ?_ (fun key3_10 => ?_)
          · rintro ⟨q20, q21⟩ W ⟨hS, ⟨hn1, hc1⟩⟩
            simp only [Act.put, set1, set2, set3]
            refine wpAnyH_ready (rs := [13, 14]) (by kernel_rfl) (by simp) ?_
            refine callH (some 87) rfl rfl rfl 36 _ _ rfl (fun _ _ => by go_simp) #[.int .i64 2, nmV jeb, nmV jsb] (by kernel_rfl) ?_ (allocH (some 20) rfl rfl rfl 50 rfl (nmA (lb 0)) alloc_0 (hS.alloc _) ?_ AllReadyH.nil)
            · refine (Kcb.out W).mono ?_
              rintro e u ⟨rfl, hb⟩
              refine ⟨_, rfl, hS.on hb, ?_⟩
              simp only [Act.put, set1, set2, set3]
              exact key4_1.out (0, q21) _ ⟨hS.on hb, ⟨hn1, hc1.on hb⟩⟩
            · simp only [Act.put, set1, set2, set3]
              exact key3_01.out (W.heap.size, q21) _ ⟨hS.alloc _, ⟨hS.size, Cell.new _ _ 0⟩, ⟨hn1, hc1.alloc _⟩, (fun (e : W.heap.size = q21) => by have h : q21 < W.heap.size := hc1.lt; omega)⟩
          simp only [Act.put, set1, set2, set3] at key3_10
          have key3_1 := Lib.hid key3_10
          clear key3_10
          refine meetH (fun (x : Nat × Nat) a => ((((a.put (some 78) (nmV jea)).put (some 80) (nmV jda)).put (some 85) (nmV jeb)).put (some 87) (nmV jcb))) #[true, true, true, true, true, true, true, true, true, true, true, true, true, true, false, false, false, false] 4 (fun (x : Nat × Nat) W => (Env 50 w W n3 [(q19, jdd), (q17, jaa), (q18, jbb), (q15, jsa), (q16, jsb), (q8, jA3), (q9, jC3), (q10, jA2), (q11, jC2), (g7, ja), (g6, j1), ((w.heap.size + 2), 0), ((w.heap.size + 1), jx), (w.heap.size, E)])) ?_ (fun key4_0 => ?_)
          · rintro ⟨q20, q21⟩ W hS
            simp only [Act.put, set1, set2, set3]
            refine wpAnyH_ready (rs := [14, 15]) (by kernel_rfl) (by simp) ?_
            refine allocH (some 20) rfl rfl rfl 50 rfl (nmA (lb 0)) alloc_0 (hS.alloc _) ?_ (allocH (some 21) rfl rfl rfl 50 rfl (nmA (lb 0)) alloc_0 (hS.alloc _) ?_ AllReadyH.nil)
            · simp only [Act.put, set1, set2, set3]
              exact key4_0.out (W.heap.size, 0) _ ⟨hS.alloc _, ⟨hS.size, Cell.new _ _ 0⟩⟩
            · simp only [Act.put, set1, set2, set3]
              exact key4_1.out (0, W.heap.size) _ ⟨hS.alloc _, ⟨hS.size, Cell.new _ _ 0⟩⟩
          simp only [Act.put, set1, set2, set3] at key4_0
          have key4_ := Lib.hid key4_0
          clear key4_0
          refine meetH (fun (x : Nat × Nat) a => (((a.put (some 78) (nmV jea)).put (some 20) (.pointer (some ⟨x.1, 0, none⟩))).put (some 21) (.pointer (some ⟨x.2, 0, none⟩)))) #[true, true, true, true, true, true, false, true, true, true, true, false, true, false, true, true, false, false] 5 (fun (x : Nat × Nat) W => (Env 50 w W n3 [(q19, jdd), (q17, jaa), (q18, jbb), (q15, jsa), (q16, jsb), (q8, jA3), (q9, jC3), (q10, jA2), (q11, jC2), (g7, ja), (g6, j1), ((w.heap.size + 2), 0), ((w.heap.size + 1), jx), (w.heap.size, E)]) ∧ (n3 ≤ x.1 ∧ Cell 50 W x.1 0) ∧ (n3 ≤ x.2 ∧ Cell 50 W x.2 0) ∧ (¬ x.1 = x.2)) ?_ (fun key1_010 => ?_)
          · rintro ⟨q20, q21⟩ W ⟨hS, ⟨hn0, hc0⟩, ⟨hn1, hc1⟩, hd01⟩
            simp only [Act.put, set1, set2, set3]
            refine wpAnyH_ready (rs := [6]) (by kernel_rfl) (by simp) ?_
            refine callH (some 80) rfl rfl rfl 36 _ _ rfl (fun _ _ => by go_simp) #[.int .i64 2, nmV jea, nmV jsa] (by kernel_rfl) ?_ AllReadyH.nil
            · refine (Kda.out W).mono ?_
              rintro e u ⟨rfl, hb⟩
              refine ⟨_, rfl, hS.on hb, ?_⟩
              simp only [Act.put, set1, set2, set3]
              exact key2_01.out (q20, q21) _ ⟨hS.on hb, ⟨hn0, hc0.on hb⟩, ⟨hn1, hc1.on hb⟩, hd01⟩
          simp only [Act.put, set1, set2, set3] at key1_010
          have key1_01 := Lib.hid key1_010
          clear key1_010
          refine meetH (fun (x : Nat × Nat) a => (((a.put (some 78) (nmV jea)).put (some 80) (nmV jda)).put (some 20) (.pointer (some ⟨x.1, 0, none⟩)))) #[true, true, true, true, true, true, true, true, true, true, true, false, true, false, true, false, false, false] 5 (fun (x : Nat × Nat) W => (Env 50 w W n3 [(q19, jdd), (q17, jaa), (q18, jbb), (q15, jsa), (q16, jsb), (q8, jA3), (q9, jC3), (q10, jA2), (q11, jC2), (g7, ja), (g6, j1), ((w.heap.size + 2), 0), ((w.heap.size + 1), jx), (w.heap.size, E)]) ∧ (n3 ≤ x.1 ∧ Cell 50 W x.1 0)) ?_ (fun key2_00 => ?_)
          · rintro ⟨q20, q21⟩ W ⟨hS, ⟨hn0, hc0⟩⟩
            simp only [Act.put, set1, set2, set3]
            refine wpAnyH_ready (rs := [11, 15]) (by kernel_rfl) (by simp) ?_
            refine callH (some 85) rfl rfl rfl 34 _ _ rfl (fun _ _ => by go_simp) #[.int .i64 2, nmV jA2, nmV jC2] (by kernel_rfl) ?_ (allocH (some 21) rfl rfl rfl 50 rfl (nmA (lb 0)) alloc_0 (hS.alloc _) ?_ AllReadyH.nil)
            · refine (Keb.out W).mono ?_
              rintro e u ⟨rfl, hb⟩
              refine ⟨_, rfl, hS.on hb, ?_⟩
              simp only [Act.put, set1, set2, set3]
              exact key3_0.out (q20, 0) _ ⟨hS.on hb, ⟨hn0, hc0.on hb⟩⟩
            · simp only [Act.put, set1, set2, set3]
              exact key2_01.out (q20, W.heap.size) _ ⟨hS.alloc _, ⟨hn0, hc0.alloc _⟩, ⟨hS.size, Cell.new _ _ 0⟩, (fun (e : q20 = W.heap.size) => by have h : q20 < W.heap.size := hc0.lt; omega)⟩
          simp only [Act.put, set1, set2, set3] at key2_00
          have key2_0 := Lib.hid key2_00
          clear key2_00
          refine meetH (fun (x : Nat × Nat) a => (((a.put (some 78) (nmV jea)).put (some 80) (nmV jda)).put (some 21) (.pointer (some ⟨x.2, 0, none⟩)))) #[true, true, true, true, true, true, true, true, true, true, true, false, true, false, false, true, false, false] 5 (fun (x : Nat × Nat) W => (Env 50 w W n3 [(q19, jdd), (q17, jaa), (q18, jbb), (q15, jsa), (q16, jsb), (q8, jA3), (q9, jC3), (q10, jA2), (q11, jC2), (g7, ja), (g6, j1), ((w.heap.size + 2), 0), ((w.heap.size + 1), jx), (w.heap.size, E)]) ∧ (n3 ≤ x.2 ∧ Cell 50 W x.2 0)) ?_ (fun key2_10 => ?_)
          · rintro ⟨q20, q21⟩ W ⟨hS, ⟨hn1, hc1⟩⟩
            simp only [Act.put, set1, set2, set3]
            refine wpAnyH_ready (rs := [11, 14]) (by kernel_rfl) (by simp) ?_
            refine callH (some 85) rfl rfl rfl 34 _ _ rfl (fun _ _ => by go_simp) #[.int .i64 2, nmV jA2, nmV jC2] (by kernel_rfl) ?_ (allocH (some 20) rfl rfl rfl 50 rfl (nmA (lb 0)) alloc_0 (hS.alloc _) ?_ AllReadyH.nil)
            · refine (Keb.out W).mono ?_
              rintro e u ⟨rfl, hb⟩
              refine ⟨_, rfl, hS.on hb, ?_⟩
              simp only [Act.put, set1, set2, set3]
              exact key3_1.out (0, q21) _ ⟨hS.on hb, ⟨hn1, hc1.on hb⟩⟩
            · simp only [Act.put, set1, set2, set3]
              exact key2_01.out (W.heap.size, q21) _ ⟨hS.alloc _, ⟨hS.size, Cell.new _ _ 0⟩, ⟨hn1, hc1.alloc _⟩, (fun (e : W.heap.size = q21) => by have h : q21 < W.heap.size := hc1.lt; omega)⟩
          simp only [Act.put, set1, set2, set3] at key2_10
          have key2_1 := Lib.hid key2_10
          clear key2_10
          refine meetH (fun (x : Nat × Nat) a => (((a.put (some 78) (nmV jea)).put (some 80) (nmV jda)).put (some 85) (nmV jeb))) #[true, true, true, true, true, true, true, true, true, true, true, true, true, false, false, false, false, false] 5 (fun (x : Nat × Nat) W => (Env 50 w W n3 [(q19, jdd), (q17, jaa), (q18, jbb), (q15, jsa), (q16, jsb), (q8, jA3), (q9, jC3), (q10, jA2), (q11, jC2), (g7, ja), (g6, j1), ((w.heap.size + 2), 0), ((w.heap.size + 1), jx), (w.heap.size, E)])) ?_ (fun key3_0 => ?_)
          · rintro ⟨q20, q21⟩ W hS
            simp only [Act.put, set1, set2, set3]
            refine wpAnyH_ready (rs := [13, 14, 15]) (by kernel_rfl) (by simp) ?_
            refine callH (some 87) rfl rfl rfl 36 _ _ rfl (fun _ _ => by go_simp) #[.int .i64 2, nmV jeb, nmV jsb] (by kernel_rfl) ?_ (allocH (some 20) rfl rfl rfl 50 rfl (nmA (lb 0)) alloc_0 (hS.alloc _) ?_ (allocH (some 21) rfl rfl rfl 50 rfl (nmA (lb 0)) alloc_0 (hS.alloc _) ?_ AllReadyH.nil))
            · refine (Kcb.out W).mono ?_
              rintro e u ⟨rfl, hb⟩
              refine ⟨_, rfl, hS.on hb, ?_⟩
              simp only [Act.put, set1, set2, set3]
              exact key4_.out (0, 0) _ (hS.on hb)
            · simp only [Act.put, set1, set2, set3]
              exact key3_0.out (W.heap.size, 0) _ ⟨hS.alloc _, ⟨hS.size, Cell.new _ _ 0⟩⟩
            · simp only [Act.put, set1, set2, set3]
              exact key3_1.out (0, W.heap.size) _ ⟨hS.alloc _, ⟨hS.size, Cell.new _ _ 0⟩⟩
          simp only [Act.put, set1, set2, set3] at key3_0
          have key3_ := Lib.hid key3_0
          clear key3_0
          refine meetH (fun (x : Nat × Nat) a => ((a.put (some 20) (.pointer (some ⟨x.1, 0, none⟩))).put (some 21) (.pointer (some ⟨x.2, 0, none⟩)))) #[true, true, true, true, false, true, false, true, true, true, true, false, true, false, true, true, false, false] 6 (fun (x : Nat × Nat) W => (Env 50 w W n3 [(q19, jdd), (q17, jaa), (q18, jbb), (q15, jsa), (q16, jsb), (q8, jA3), (q9, jC3), (q10, jA2), (q11, jC2), (g7, ja), (g6, j1), ((w.heap.size + 2), 0), ((w.heap.size + 1), jx), (w.heap.size, E)]) ∧ (n3 ≤ x.1 ∧ Cell 50 W x.1 0) ∧ (n3 ≤ x.2 ∧ Cell 50 W x.2 0) ∧ (¬ x.1 = x.2)) ?_ (fun key0_010 => ?_)
          · rintro ⟨q20, q21⟩ W ⟨hS, ⟨hn0, hc0⟩, ⟨hn1, hc1⟩, hd01⟩
            simp only [Act.put, set1, set2, set3]
            refine wpAnyH_ready (rs := [4]) (by kernel_rfl) (by simp) ?_
            refine callH (some 78) rfl rfl rfl 35 _ _ rfl (fun _ _ => by go_simp) #[.int .i64 2, nmV jA2, nmV jC2] (by kernel_rfl) ?_ AllReadyH.nil
            · refine (Kea.out W).mono ?_
              rintro e u ⟨rfl, hb⟩
              refine ⟨_, rfl, hS.on hb, ?_⟩
              simp only [Act.put, set1, set2, set3]
              exact key1_01.out (q20, q21) _ ⟨hS.on hb, ⟨hn0, hc0.on hb⟩, ⟨hn1, hc1.on hb⟩, hd01⟩
          simp only [Act.put, set1, set2, set3] at key0_010
          have key0_01 := Lib.hid key0_010
          clear key0_010
          refine meetH (fun (x : Nat × Nat) a => ((a.put (some 78) (nmV jea)).put (some 20) (.pointer (some ⟨x.1, 0, none⟩)))) #[true, true, true, true, true, true, false, true, true, true, true, false, true, false, true, false, false, false] 6 (fun (x : Nat × Nat) W => (Env 50 w W n3 [(q19, jdd), (q17, jaa), (q18, jbb), (q15, jsa), (q16, jsb), (q8, jA3), (q9, jC3), (q10, jA2), (q11, jC2), (g7, ja), (g6, j1), ((w.heap.size + 2), 0), ((w.heap.size + 1), jx), (w.heap.size, E)]) ∧ (n3 ≤ x.1 ∧ Cell 50 W x.1 0)) ?_ (fun key1_00 => ?_)
          · rintro ⟨q20, q21⟩ W ⟨hS, ⟨hn0, hc0⟩⟩
            simp only [Act.put, set1, set2, set3]
            refine wpAnyH_ready (rs := [6, 15]) (by kernel_rfl) (by simp) ?_
            refine callH (some 80) rfl rfl rfl 36 _ _ rfl (fun _ _ => by go_simp) #[.int .i64 2, nmV jea, nmV jsa] (by kernel_rfl) ?_ (allocH (some 21) rfl rfl rfl 50 rfl (nmA (lb 0)) alloc_0 (hS.alloc _) ?_ AllReadyH.nil)
            · refine (Kda.out W).mono ?_
              rintro e u ⟨rfl, hb⟩
              refine ⟨_, rfl, hS.on hb, ?_⟩
              simp only [Act.put, set1, set2, set3]
              exact key2_0.out (q20, 0) _ ⟨hS.on hb, ⟨hn0, hc0.on hb⟩⟩
            · simp only [Act.put, set1, set2, set3]
              exact key1_01.out (q20, W.heap.size) _ ⟨hS.alloc _, ⟨hn0, hc0.alloc _⟩, ⟨hS.size, Cell.new _ _ 0⟩, (fun (e : q20 = W.heap.size) => by have h : q20 < W.heap.size := hc0.lt; omega)⟩
          simp only [Act.put, set1, set2, set3] at key1_00
          have key1_0 := Lib.hid key1_00
          clear key1_00
          refine meetH (fun (x : Nat × Nat) a => ((a.put (some 78) (nmV jea)).put (some 21) (.pointer (some ⟨x.2, 0, none⟩)))) #[true, true, true, true, true, true, false, true, true, true, true, false, true, false, false, true, false, false] 6 (fun (x : Nat × Nat) W => (Env 50 w W n3 [(q19, jdd), (q17, jaa), (q18, jbb), (q15, jsa), (q16, jsb), (q8, jA3), (q9, jC3), (q10, jA2), (q11, jC2), (g7, ja), (g6, j1), ((w.heap.size + 2), 0), ((w.heap.size + 1), jx), (w.heap.size, E)]) ∧ (n3 ≤ x.2 ∧ Cell 50 W x.2 0)) ?_ (fun key1_10 => ?_)
          · rintro ⟨q20, q21⟩ W ⟨hS, ⟨hn1, hc1⟩⟩
            simp only [Act.put, set1, set2, set3]
            refine wpAnyH_ready (rs := [6, 14]) (by kernel_rfl) (by simp) ?_
            refine callH (some 80) rfl rfl rfl 36 _ _ rfl (fun _ _ => by go_simp) #[.int .i64 2, nmV jea, nmV jsa] (by kernel_rfl) ?_ (allocH (some 20) rfl rfl rfl 50 rfl (nmA (lb 0)) alloc_0 (hS.alloc _) ?_ AllReadyH.nil)
            · refine (Kda.out W).mono ?_
              rintro e u ⟨rfl, hb⟩
              refine ⟨_, rfl, hS.on hb, ?_⟩
              simp only [Act.put, set1, set2, set3]
              exact key2_1.out (0, q21) _ ⟨hS.on hb, ⟨hn1, hc1.on hb⟩⟩
            · simp only [Act.put, set1, set2, set3]
              exact key1_01.out (W.heap.size, q21) _ ⟨hS.alloc _, ⟨hS.size, Cell.new _ _ 0⟩, ⟨hn1, hc1.alloc _⟩, (fun (e : W.heap.size = q21) => by have h : q21 < W.heap.size := hc1.lt; omega)⟩
          simp only [Act.put, set1, set2, set3] at key1_10
          have key1_1 := Lib.hid key1_10
          clear key1_10
          refine meetH (fun (x : Nat × Nat) a => ((a.put (some 78) (nmV jea)).put (some 80) (nmV jda))) #[true, true, true, true, true, true, true, true, true, true, true, false, true, false, false, false, false, false] 6 (fun (x : Nat × Nat) W => (Env 50 w W n3 [(q19, jdd), (q17, jaa), (q18, jbb), (q15, jsa), (q16, jsb), (q8, jA3), (q9, jC3), (q10, jA2), (q11, jC2), (g7, ja), (g6, j1), ((w.heap.size + 2), 0), ((w.heap.size + 1), jx), (w.heap.size, E)])) ?_ (fun key2_0 => ?_)
          · rintro ⟨q20, q21⟩ W hS
            simp only [Act.put, set1, set2, set3]
            refine wpAnyH_ready (rs := [11, 14, 15]) (by kernel_rfl) (by simp) ?_
            refine callH (some 85) rfl rfl rfl 34 _ _ rfl (fun _ _ => by go_simp) #[.int .i64 2, nmV jA2, nmV jC2] (by kernel_rfl) ?_ (allocH (some 20) rfl rfl rfl 50 rfl (nmA (lb 0)) alloc_0 (hS.alloc _) ?_ (allocH (some 21) rfl rfl rfl 50 rfl (nmA (lb 0)) alloc_0 (hS.alloc _) ?_ AllReadyH.nil))
            · refine (Keb.out W).mono ?_
              rintro e u ⟨rfl, hb⟩
              refine ⟨_, rfl, hS.on hb, ?_⟩
              simp only [Act.put, set1, set2, set3]
              exact key3_.out (0, 0) _ (hS.on hb)
            · simp only [Act.put, set1, set2, set3]
              exact key2_0.out (W.heap.size, 0) _ ⟨hS.alloc _, ⟨hS.size, Cell.new _ _ 0⟩⟩
            · simp only [Act.put, set1, set2, set3]
              exact key2_1.out (0, W.heap.size) _ ⟨hS.alloc _, ⟨hS.size, Cell.new _ _ 0⟩⟩
          simp only [Act.put, set1, set2, set3] at key2_0
          have key2_ := Lib.hid key2_0
          clear key2_0
          refine meetH (fun (x : Nat × Nat) a => (a.put (some 20) (.pointer (some ⟨x.1, 0, none⟩)))) #[true, true, true, true, false, true, false, true, true, true, true, false, true, false, true, false, false, false] 7 (fun (x : Nat × Nat) W => (Env 50 w W n3 [(q19, jdd), (q17, jaa), (q18, jbb), (q15, jsa), (q16, jsb), (q8, jA3), (q9, jC3), (q10, jA2), (q11, jC2), (g7, ja), (g6, j1), ((w.heap.size + 2), 0), ((w.heap.size + 1), jx), (w.heap.size, E)]) ∧ (n3 ≤ x.1 ∧ Cell 50 W x.1 0)) ?_ (fun key0_00 => ?_)
          · rintro ⟨q20, q21⟩ W ⟨hS, ⟨hn0, hc0⟩⟩
            simp only [Act.put, set1, set2, set3]
            refine wpAnyH_ready (rs := [4, 15]) (by kernel_rfl) (by simp) ?_
            refine callH (some 78) rfl rfl rfl 35 _ _ rfl (fun _ _ => by go_simp) #[.int .i64 2, nmV jA2, nmV jC2] (by kernel_rfl) ?_ (allocH (some 21) rfl rfl rfl 50 rfl (nmA (lb 0)) alloc_0 (hS.alloc _) ?_ AllReadyH.nil)
            · refine (Kea.out W).mono ?_
              rintro e u ⟨rfl, hb⟩
              refine ⟨_, rfl, hS.on hb, ?_⟩
              simp only [Act.put, set1, set2, set3]
              exact key1_0.out (q20, 0) _ ⟨hS.on hb, ⟨hn0, hc0.on hb⟩⟩
            · simp only [Act.put, set1, set2, set3]
              exact key0_01.out (q20, W.heap.size) _ ⟨hS.alloc _, ⟨hn0, hc0.alloc _⟩, ⟨hS.size, Cell.new _ _ 0⟩, (fun (e : q20 = W.heap.size) => by have h : q20 < W.heap.size := hc0.lt; omega)⟩
          simp only [Act.put, set1, set2, set3] at key0_00
          have key0_0 := Lib.hid key0_00
          clear key0_00
          refine meetH (fun (x : Nat × Nat) a => (a.put (some 21) (.pointer (some ⟨x.2, 0, none⟩)))) #[true, true, true, true, false, true, false, true, true, true, true, false, true, false, false, true, false, false] 7 (fun (x : Nat × Nat) W => (Env 50 w W n3 [(q19, jdd), (q17, jaa), (q18, jbb), (q15, jsa), (q16, jsb), (q8, jA3), (q9, jC3), (q10, jA2), (q11, jC2), (g7, ja), (g6, j1), ((w.heap.size + 2), 0), ((w.heap.size + 1), jx), (w.heap.size, E)]) ∧ (n3 ≤ x.2 ∧ Cell 50 W x.2 0)) ?_ (fun key0_10 => ?_)
          · rintro ⟨q20, q21⟩ W ⟨hS, ⟨hn1, hc1⟩⟩
            simp only [Act.put, set1, set2, set3]
            refine wpAnyH_ready (rs := [4, 14]) (by kernel_rfl) (by simp) ?_
            refine callH (some 78) rfl rfl rfl 35 _ _ rfl (fun _ _ => by go_simp) #[.int .i64 2, nmV jA2, nmV jC2] (by kernel_rfl) ?_ (allocH (some 20) rfl rfl rfl 50 rfl (nmA (lb 0)) alloc_0 (hS.alloc _) ?_ AllReadyH.nil)
            · refine (Kea.out W).mono ?_
              rintro e u ⟨rfl, hb⟩
              refine ⟨_, rfl, hS.on hb, ?_⟩
              simp only [Act.put, set1, set2, set3]
              exact key1_1.out (0, q21) _ ⟨hS.on hb, ⟨hn1, hc1.on hb⟩⟩
            · simp only [Act.put, set1, set2, set3]
              exact key0_01.out (W.heap.size, q21) _ ⟨hS.alloc _, ⟨hS.size, Cell.new _ _ 0⟩, ⟨hn1, hc1.alloc _⟩, (fun (e : W.heap.size = q21) => by have h : q21 < W.heap.size := hc1.lt; omega)⟩
          simp only [Act.put, set1, set2, set3] at key0_10
          have key0_1 := Lib.hid key0_10
          clear key0_10
          refine meetH (fun (x : Nat × Nat) a => (a.put (some 78) (nmV jea))) #[true, true, true, true, true, true, false, true, true, true, true, false, true, false, false, false, false, false] 7 (fun (x : Nat × Nat) W => (Env 50 w W n3 [(q19, jdd), (q17, jaa), (q18, jbb), (q15, jsa), (q16, jsb), (q8, jA3), (q9, jC3), (q10, jA2), (q11, jC2), (g7, ja), (g6, j1), ((w.heap.size + 2), 0), ((w.heap.size + 1), jx), (w.heap.size, E)])) ?_ (fun key1_0 => ?_)
          · rintro ⟨q20, q21⟩ W hS
            simp only [Act.put, set1, set2, set3]
            refine wpAnyH_ready (rs := [6, 14, 15]) (by kernel_rfl) (by simp) ?_
            refine callH (some 80) rfl rfl rfl 36 _ _ rfl (fun _ _ => by go_simp) #[.int .i64 2, nmV jea, nmV jsa] (by kernel_rfl) ?_ (allocH (some 20) rfl rfl rfl 50 rfl (nmA (lb 0)) alloc_0 (hS.alloc _) ?_ (allocH (some 21) rfl rfl rfl 50 rfl (nmA (lb 0)) alloc_0 (hS.alloc _) ?_ AllReadyH.nil))
            · refine (Kda.out W).mono ?_
              rintro e u ⟨rfl, hb⟩
              refine ⟨_, rfl, hS.on hb, ?_⟩
              simp only [Act.put, set1, set2, set3]
              exact key2_.out (0, 0) _ (hS.on hb)
            · simp only [Act.put, set1, set2, set3]
              exact key1_0.out (W.heap.size, 0) _ ⟨hS.alloc _, ⟨hS.size, Cell.new _ _ 0⟩⟩
            · simp only [Act.put, set1, set2, set3]
              exact key1_1.out (0, W.heap.size) _ ⟨hS.alloc _, ⟨hS.size, Cell.new _ _ 0⟩⟩
          simp only [Act.put, set1, set2, set3] at key1_0
          have key1_ := Lib.hid key1_0
          clear key1_0
          refine wpAnyH_ready (rs := [4, 14, 15]) (by kernel_rfl) (by simp) ?_
          refine callH (some 78) rfl rfl rfl 35 _ _ rfl (fun _ _ => by go_simp) #[.int .i64 2, nmV jA2, nmV jC2] (by kernel_rfl) ?_ (allocH (some 20) rfl rfl rfl 50 rfl (nmA (lb 0)) alloc_0 (HSx.out.alloc _) ?_ (allocH (some 21) rfl rfl rfl 50 rfl (nmA (lb 0)) alloc_0 (HSx.out.alloc _) ?_ AllReadyH.nil))
          · refine (Kea.out wd).mono ?_
            rintro e u ⟨rfl, hb⟩
            refine ⟨_, rfl, HSx.out.on hb, ?_⟩
            simp only [Act.put, set1, set2, set3]
            exact key1_.out (0, 0) _ (HSx.out.on hb)
          · simp only [Act.put, set1, set2, set3]
            exact key0_0.out (wd.heap.size, 0) _ ⟨HSx.out.alloc _, ⟨HSx.out.size, Cell.new _ _ 0⟩⟩
          · simp only [Act.put, set1, set2, set3]
            exact key0_1.out (0, wd.heap.size) _ ⟨HSx.out.alloc _, ⟨HSx.out.size, Cell.new _ _ 0⟩⟩
        rintro ⟨q20, q21⟩ W ⟨hS, ⟨hn0, hc0⟩, ⟨hn1, hc1⟩, hd01⟩
        simp only [Act.put, set1, set2, set3]
        have HE := Lib.hid hS
        have C0 := Lib.hid hc0
        have C1 := Lib.hid hc1
        refine wpAnyH_ready (rs := [16]) (by kernel_rfl) (by simp) ?_
        refine storeH rfl rfl rfl 50 _ _ rfl q20 (nmA (lb jda)) (by kernel_rfl) (by kernel_rfl) 50 _ C0.out (by kernel_rfl) (by first | rw [nmA_size, nmA_size] | rfl) (nmA_one _) (HE.out.far _ hn0) ?_ AllReadyH.nil
        have HE := Lib.hid (HE.out.far (nmA (lb jda)) hn0)
        have C0 := Lib.hid (C0.out.put jda)
        have C1 := Lib.hid (C1.out.far (nmA (lb jda)) (fun e => hd01 e.symm))
        generalize W.setRow q20 (nmA (lb jda)) = ws0 at HE C0 C1 ⊢
        simp only [Act.put, set1, set2, set3]
        refine wpAnyH_ready (rs := [17]) (by kernel_rfl) (by simp) ?_
        refine storeH rfl rfl rfl 50 _ _ rfl q21 (nmA (lb jcb)) (by kernel_rfl) (by kernel_rfl) 50 _ C1.out (by kernel_rfl) (by first | rw [nmA_size, nmA_size] | rfl) (nmA_one _) (HE.out.far _ hn1) ?_ AllReadyH.nil
        have HE := Lib.hid (HE.out.far (nmA (lb jcb)) hn1)
        have C0 := Lib.hid (C0.out.far (nmA (lb jcb)) hd01)
        have C1 := Lib.hid (C1.out.put jcb)
        generalize ws0.setRow q21 (nmA (lb jcb)) = ws1 at HE C0 C1 ⊢
        simp only [Act.put, set1, set2, set3]
        refine wpAnyH_done (by kernel_rfl) ?_ _
        have HM := Lib.hid ((((HE.out).add (Nat.le_trans HE.out.base hn1) (HE.out.old hn1) C1.out)).add (Nat.le_trans HE.out.base hn0) (new_cons (HE.out.old hn0) hd01) C0.out)
        clear HE C0 hn0 hc0 C1 hn1 hc1 hd01
        generalize ws1.heap.size = n4 at HM
        generalize ws1 = wz at HM ⊢
        go_upto_region 18 with (fail)
        have hSd := HM.out.drew
        clear HM
        refine wp_region_held (S := fun u => Env 50 w u n4 [(q20, jda), (q21, jcb), (q19, jdd), (q17, jaa), (q18, jbb), (q15, jsa), (q16, jsb), (q8, jA3), (q9, jC3), (q10, jA2), (q11, jC2), (g7, ja), (g6, j1), ((w.heap.size + 2), 0), ((w.heap.size + 1), jx), (w.heap.size, E)]) (by kernel_rfl) ?_
        change wpAnyH _ _ _ _ _ _ _ _ wz.drew
        have HSx := Lib.hid hSd
        clear hSd
        generalize wz.drew = wd at HSx ⊢
        refine takeH (i := 0) (some 88) (.int .i64 2) rfl rfl rfl (by kernel_rfl) (by kernel_rfl) (by kernel_rfl) (fun _ _ _ h => h) (fun w _ => by go_simp) HSx.out ?_
        simp only [Act.put, set1, set2, set3]
        refine takeH (i := 1) (some 89) (.agg (nmA (lb jda))) rfl rfl rfl (by kernel_rfl) (by kernel_rfl) (by kernel_rfl) (fun _ _ _ h => h) (load_row 50 _ rfl q20 (by kernel_rfl) 50 (nmA (lb jda)) (0, 0) _ Try.underlying50 rfl (by kernel_rfl) (fun w h => h.get 0 rfl)) HSx.out ?_
        simp only [Act.put, set1, set2, set3]
        refine takeH (i := 2) (some 90) (.agg (nmA (lb jcb))) rfl rfl rfl (by kernel_rfl) (by kernel_rfl) (by kernel_rfl) (fun _ _ _ h => h) (load_row 50 _ rfl q21 (by kernel_rfl) 50 (nmA (lb jcb)) (0, 0) _ Try.underlying50 rfl (by kernel_rfl) (fun w h => h.get 1 rfl)) HSx.out ?_
        simp only [Act.put, set1, set2, set3]
        refine takeH (i := 4) (some 92) (.int .i64 2) rfl rfl rfl (by kernel_rfl) (by kernel_rfl) (by kernel_rfl) (fun _ _ _ h => h) (fun w _ => by go_simp) HSx.out ?_
        simp only [Act.put, set1, set2, set3]
        refine takeH (i := 5) (some 93) (.agg (nmA (lb jda))) rfl rfl rfl (by kernel_rfl) (by kernel_rfl) (by kernel_rfl) (fun _ _ _ h => h) (load_row 50 _ rfl q20 (by kernel_rfl) 50 (nmA (lb jda)) (0, 0) _ Try.underlying50 rfl (by kernel_rfl) (fun w h => h.get 0 rfl)) HSx.out ?_
        simp only [Act.put, set1, set2, set3]
        refine takeH (i := 6) (some 94) (.agg (nmA (lb jcb))) rfl rfl rfl (by kernel_rfl) (by kernel_rfl) (by kernel_rfl) (fun _ _ _ h => h) (load_row 50 _ rfl q21 (by kernel_rfl) 50 (nmA (lb jcb)) (0, 0) _ Try.underlying50 rfl (by kernel_rfl) (fun w h => h.get 1 rfl)) HSx.out ?_
        simp only [Act.put, set1, set2, set3]
        refine meetH (fun (x : Nat × Nat) a => ((((a.put (some 91) (nmV jst)).put (some 95) (nmV jmt)).put (some 22) (.pointer (some ⟨x.1, 0, none⟩))).put (some 23) (.pointer (some ⟨x.2, 0, none⟩)))) #[true, true, true, true, true, true, true, true, true, true, false, false] 2 (fun (x : Nat × Nat) W => (Env 50 w W n4 [(q20, jda), (q21, jcb), (q19, jdd), (q17, jaa), (q18, jbb), (q15, jsa), (q16, jsb), (q8, jA3), (q9, jC3), (q10, jA2), (q11, jC2), (g7, ja), (g6, j1), ((w.heap.size + 2), 0), ((w.heap.size + 1), jx), (w.heap.size, E)]) ∧ (n4 ≤ x.1 ∧ Cell 50 W x.1 0) ∧ (n4 ≤ x.2 ∧ Cell 50 W x.2 0) ∧ (¬ x.1 = x.2)) ?_ (fun key2_010 => ?_)
        rotate_left
        · simp only [Act.put, set1, set2, set3] at key2_010
          have key2_01 := Lib.hid key2_010
          clear key2_010
          refine meetH (fun (x : Nat × Nat) a => (((a.put (some 91) (nmV jst)).put (some 22) (.pointer (some ⟨x.1, 0, none⟩))).put (some 23) (.pointer (some ⟨x.2, 0, none⟩)))) #[true, true, true, true, true, true, true, false, true, true, false, false] 3 (fun (x : Nat × Nat) W => (Env 50 w W n4 [(q20, jda), (q21, jcb), (q19, jdd), (q17, jaa), (q18, jbb), (q15, jsa), (q16, jsb), (q8, jA3), (q9, jC3), (q10, jA2), (q11, jC2), (g7, ja), (g6, j1), ((w.heap.size + 2), 0), ((w.heap.size + 1), jx), (w.heap.size, E)]) ∧ (n4 ≤ x.1 ∧ Cell 50 W x.1 0) ∧ (n4 ≤ x.2 ∧ Cell 50 W x.2 0) ∧ (¬ x.1 = x.2)) ?_ (fun key1_010 => ?_)
          · rintro ⟨q22, q23⟩ W ⟨hS, ⟨hn0, hc0⟩, ⟨hn1, hc1⟩, hd01⟩
            simp only [Act.put, set1, set2, set3]
            refine wpAnyH_ready (rs := [7]) (by kernel_rfl) (by simp) ?_
            refine callH (some 95) rfl rfl rfl 35 _ _ rfl (fun _ _ => by go_simp) #[.int .i64 2, nmV jda, nmV jcb] (by kernel_rfl) ?_ AllReadyH.nil
            · refine (Kmt.out W).mono ?_
              rintro e u ⟨rfl, hb⟩
              refine ⟨_, rfl, hS.on hb, ?_⟩
              simp only [Act.put, set1, set2, set3]
              exact key2_01.out (q22, q23) _ ⟨hS.on hb, ⟨hn0, hc0.on hb⟩, ⟨hn1, hc1.on hb⟩, hd01⟩
          simp only [Act.put, set1, set2, set3] at key1_010
          have key1_01 := Lib.hid key1_010
          clear key1_010
          refine meetH (fun (x : Nat × Nat) a => (((a.put (some 91) (nmV jst)).put (some 95) (nmV jmt)).put (some 22) (.pointer (some ⟨x.1, 0, none⟩)))) #[true, true, true, true, true, true, true, true, true, false, false, false] 3 (fun (x : Nat × Nat) W => (Env 50 w W n4 [(q20, jda), (q21, jcb), (q19, jdd), (q17, jaa), (q18, jbb), (q15, jsa), (q16, jsb), (q8, jA3), (q9, jC3), (q10, jA2), (q11, jC2), (g7, ja), (g6, j1), ((w.heap.size + 2), 0), ((w.heap.size + 1), jx), (w.heap.size, E)]) ∧ (n4 ≤ x.1 ∧ Cell 50 W x.1 0)) ?_ (fun key2_00 => ?_)
          · rintro ⟨q22, q23⟩ W ⟨hS, ⟨hn0, hc0⟩⟩
            simp only [Act.put, set1, set2, set3]
            refine wpAnyH_ready (rs := [9]) (by kernel_rfl) (by simp) ?_
            refine allocH (some 23) rfl rfl rfl 50 rfl (nmA (lb 0)) alloc_0 (hS.alloc _) ?_ AllReadyH.nil
            · simp only [Act.put, set1, set2, set3]
              exact key2_01.out (q22, W.heap.size) _ ⟨hS.alloc _, ⟨hn0, hc0.alloc _⟩, ⟨hS.size, Cell.new _ _ 0⟩, (fun (e : q22 = W.heap.size) => by have h : q22 < W.heap.size := hc0.lt; omega)⟩
          simp only [Act.put, set1, set2, set3] at key2_00
          have key2_0 := Lib.hid key2_00
          clear key2_00
          refine meetH (fun (x : Nat × Nat) a => (((a.put (some 91) (nmV jst)).put (some 95) (nmV jmt)).put (some 23) (.pointer (some ⟨x.2, 0, none⟩)))) #[true, true, true, true, true, true, true, true, false, true, false, false] 3 (fun (x : Nat × Nat) W => (Env 50 w W n4 [(q20, jda), (q21, jcb), (q19, jdd), (q17, jaa), (q18, jbb), (q15, jsa), (q16, jsb), (q8, jA3), (q9, jC3), (q10, jA2), (q11, jC2), (g7, ja), (g6, j1), ((w.heap.size + 2), 0), ((w.heap.size + 1), jx), (w.heap.size, E)]) ∧ (n4 ≤ x.2 ∧ Cell 50 W x.2 0)) ?_ (fun key2_10 => ?_)
          · rintro ⟨q22, q23⟩ W ⟨hS, ⟨hn1, hc1⟩⟩
            simp only [Act.put, set1, set2, set3]
            refine wpAnyH_ready (rs := [8]) (by kernel_rfl) (by simp) ?_
            refine allocH (some 22) rfl rfl rfl 50 rfl (nmA (lb 0)) alloc_0 (hS.alloc _) ?_ AllReadyH.nil
            · simp only [Act.put, set1, set2, set3]
              exact key2_01.out (W.heap.size, q23) _ ⟨hS.alloc _, ⟨hS.size, Cell.new _ _ 0⟩, ⟨hn1, hc1.alloc _⟩, (fun (e : W.heap.size = q23) => by have h : q23 < W.heap.size := hc1.lt; omega)⟩
          simp only [Act.put, set1, set2, set3] at key2_10
          have key2_1 := Lib.hid key2_10
          clear key2_10
          refine meetH (fun (x : Nat × Nat) a => ((a.put (some 22) (.pointer (some ⟨x.1, 0, none⟩))).put (some 23) (.pointer (some ⟨x.2, 0, none⟩)))) #[true, true, true, false, true, true, true, false, true, true, false, false] 4 (fun (x : Nat × Nat) W => (Env 50 w W n4 [(q20, jda), (q21, jcb), (q19, jdd), (q17, jaa), (q18, jbb), (q15, jsa), (q16, jsb), (q8, jA3), (q9, jC3), (q10, jA2), (q11, jC2), (g7, ja), (g6, j1), ((w.heap.size + 2), 0), ((w.heap.size + 1), jx), (w.heap.size, E)]) ∧ (n4 ≤ x.1 ∧ Cell 50 W x.1 0) ∧ (n4 ≤ x.2 ∧ Cell 50 W x.2 0) ∧ (¬ x.1 = x.2)) ?_ (fun key0_010 => ?_)
          · rintro ⟨q22, q23⟩ W ⟨hS, ⟨hn0, hc0⟩, ⟨hn1, hc1⟩, hd01⟩
            simp only [Act.put, set1, set2, set3]
            refine wpAnyH_ready (rs := [3]) (by kernel_rfl) (by simp) ?_
            refine callH (some 91) rfl rfl rfl 34 _ _ rfl (fun _ _ => by go_simp) #[.int .i64 2, nmV jda, nmV jcb] (by kernel_rfl) ?_ AllReadyH.nil
            · refine (Kst.out W).mono ?_
              rintro e u ⟨rfl, hb⟩
              refine ⟨_, rfl, hS.on hb, ?_⟩
              simp only [Act.put, set1, set2, set3]
              exact key1_01.out (q22, q23) _ ⟨hS.on hb, ⟨hn0, hc0.on hb⟩, ⟨hn1, hc1.on hb⟩, hd01⟩
          simp only [Act.put, set1, set2, set3] at key0_010
          have key0_01 := Lib.hid key0_010
          clear key0_010
          refine meetH (fun (x : Nat × Nat) a => ((a.put (some 91) (nmV jst)).put (some 22) (.pointer (some ⟨x.1, 0, none⟩)))) #[true, true, true, true, true, true, true, false, true, false, false, false] 4 (fun (x : Nat × Nat) W => (Env 50 w W n4 [(q20, jda), (q21, jcb), (q19, jdd), (q17, jaa), (q18, jbb), (q15, jsa), (q16, jsb), (q8, jA3), (q9, jC3), (q10, jA2), (q11, jC2), (g7, ja), (g6, j1), ((w.heap.size + 2), 0), ((w.heap.size + 1), jx), (w.heap.size, E)]) ∧ (n4 ≤ x.1 ∧ Cell 50 W x.1 0)) ?_ (fun key1_00 => ?_)
          · rintro ⟨q22, q23⟩ W ⟨hS, ⟨hn0, hc0⟩⟩
            simp only [Act.put, set1, set2, set3]
            refine wpAnyH_ready (rs := [7, 9]) (by kernel_rfl) (by simp) ?_
            refine callH (some 95) rfl rfl rfl 35 _ _ rfl (fun _ _ => by go_simp) #[.int .i64 2, nmV jda, nmV jcb] (by kernel_rfl) ?_ (allocH (some 23) rfl rfl rfl 50 rfl (nmA (lb 0)) alloc_0 (hS.alloc _) ?_ AllReadyH.nil)
            · refine (Kmt.out W).mono ?_
              rintro e u ⟨rfl, hb⟩
              refine ⟨_, rfl, hS.on hb, ?_⟩
              simp only [Act.put, set1, set2, set3]
              exact key2_0.out (q22, 0) _ ⟨hS.on hb, ⟨hn0, hc0.on hb⟩⟩
            · simp only [Act.put, set1, set2, set3]
              exact key1_01.out (q22, W.heap.size) _ ⟨hS.alloc _, ⟨hn0, hc0.alloc _⟩, ⟨hS.size, Cell.new _ _ 0⟩, (fun (e : q22 = W.heap.size) => by have h : q22 < W.heap.size := hc0.lt; omega)⟩
          simp only [Act.put, set1, set2, set3] at key1_00
          have key1_0 := Lib.hid key1_00
          clear key1_00
          refine meetH (fun (x : Nat × Nat) a => ((a.put (some 91) (nmV jst)).put (some 23) (.pointer (some ⟨x.2, 0, none⟩)))) #[true, true, true, true, true, true, true, false, false, true, false, false] 4 (fun (x : Nat × Nat) W => (Env 50 w W n4 [(q20, jda), (q21, jcb), (q19, jdd), (q17, jaa), (q18, jbb), (q15, jsa), (q16, jsb), (q8, jA3), (q9, jC3), (q10, jA2), (q11, jC2), (g7, ja), (g6, j1), ((w.heap.size + 2), 0), ((w.heap.size + 1), jx), (w.heap.size, E)]) ∧ (n4 ≤ x.2 ∧ Cell 50 W x.2 0)) ?_ (fun key1_10 => ?_)
          · rintro ⟨q22, q23⟩ W ⟨hS, ⟨hn1, hc1⟩⟩
            simp only [Act.put, set1, set2, set3]
            refine wpAnyH_ready (rs := [7, 8]) (by kernel_rfl) (by simp) ?_
            refine callH (some 95) rfl rfl rfl 35 _ _ rfl (fun _ _ => by go_simp) #[.int .i64 2, nmV jda, nmV jcb] (by kernel_rfl) ?_ (allocH (some 22) rfl rfl rfl 50 rfl (nmA (lb 0)) alloc_0 (hS.alloc _) ?_ AllReadyH.nil)
            · refine (Kmt.out W).mono ?_
              rintro e u ⟨rfl, hb⟩
              refine ⟨_, rfl, hS.on hb, ?_⟩
              simp only [Act.put, set1, set2, set3]
              exact key2_1.out (0, q23) _ ⟨hS.on hb, ⟨hn1, hc1.on hb⟩⟩
            · simp only [Act.put, set1, set2, set3]
              exact key1_01.out (W.heap.size, q23) _ ⟨hS.alloc _, ⟨hS.size, Cell.new _ _ 0⟩, ⟨hn1, hc1.alloc _⟩, (fun (e : W.heap.size = q23) => by have h : q23 < W.heap.size := hc1.lt; omega)⟩
          simp only [Act.put, set1, set2, set3] at key1_10
          have key1_1 := Lib.hid key1_10
          clear key1_10
          refine meetH (fun (x : Nat × Nat) a => ((a.put (some 91) (nmV jst)).put (some 95) (nmV jmt))) #[true, true, true, true, true, true, true, true, false, false, false, false] 4 (fun (x : Nat × Nat) W => (Env 50 w W n4 [(q20, jda), (q21, jcb), (q19, jdd), (q17, jaa), (q18, jbb), (q15, jsa), (q16, jsb), (q8, jA3), (q9, jC3), (q10, jA2), (q11, jC2), (g7, ja), (g6, j1), ((w.heap.size + 2), 0), ((w.heap.size + 1), jx), (w.heap.size, E)])) ?_ (fun key2_0 => ?_)
          · rintro ⟨q22, q23⟩ W hS
            simp only [Act.put, set1, set2, set3]
            refine wpAnyH_ready (rs := [8, 9]) (by kernel_rfl) (by simp) ?_
            refine allocH (some 22) rfl rfl rfl 50 rfl (nmA (lb 0)) alloc_0 (hS.alloc _) ?_ (allocH (some 23) rfl rfl rfl 50 rfl (nmA (lb 0)) alloc_0 (hS.alloc _) ?_ AllReadyH.nil)
            · simp only [Act.put, set1, set2, set3]
              exact key2_0.out (W.heap.size, 0) _ ⟨hS.alloc _, ⟨hS.size, Cell.new _ _ 0⟩⟩
            · simp only [Act.put, set1, set2, set3]
              exact key2_1.out (0, W.heap.size) _ ⟨hS.alloc _, ⟨hS.size, Cell.new _ _ 0⟩⟩
          simp only [Act.put, set1, set2, set3] at key2_0
          have key2_ := Lib.hid key2_0
          clear key2_0
          refine meetH (fun (x : Nat × Nat) a => (a.put (some 22) (.pointer (some ⟨x.1, 0, none⟩)))) #[true, true, true, false, true, true, true, false, true, false, false, false] 5 (fun (x : Nat × Nat) W => (Env 50 w W n4 [(q20, jda), (q21, jcb), (q19, jdd), (q17, jaa), (q18, jbb), (q15, jsa), (q16, jsb), (q8, jA3), (q9, jC3), (q10, jA2), (q11, jC2), (g7, ja), (g6, j1), ((w.heap.size + 2), 0), ((w.heap.size + 1), jx), (w.heap.size, E)]) ∧ (n4 ≤ x.1 ∧ Cell 50 W x.1 0)) ?_ (fun key0_00 => ?_)
          · rintro ⟨q22, q23⟩ W ⟨hS, ⟨hn0, hc0⟩⟩
            simp only [Act.put, set1, set2, set3]
            refine wpAnyH_ready (rs := [3, 9]) (by kernel_rfl) (by simp) ?_
            refine callH (some 91) rfl rfl rfl 34 _ _ rfl (fun _ _ => by go_simp) #[.int .i64 2, nmV jda, nmV jcb] (by kernel_rfl) ?_ (allocH (some 23) rfl rfl rfl 50 rfl (nmA (lb 0)) alloc_0 (hS.alloc _) ?_ AllReadyH.nil)
            · refine (Kst.out W).mono ?_
              rintro e u ⟨rfl, hb⟩
              refine ⟨_, rfl, hS.on hb, ?_⟩
              simp only [Act.put, set1, set2, set3]
              exact key1_0.out (q22, 0) _ ⟨hS.on hb, ⟨hn0, hc0.on hb⟩⟩
            · simp only [Act.put, set1, set2, set3]
              exact key0_01.out (q22, W.heap.size) _ ⟨hS.alloc _, ⟨hn0, hc0.alloc _⟩, ⟨hS.size, Cell.new _ _ 0⟩, (fun (e : q22 = W.heap.size) => by have h : q22 < W.heap.size := hc0.lt; omega)⟩
          simp only [Act.put, set1, set2, set3] at key0_00
          have key0_0 := Lib.hid key0_00
          clear key0_00
          refine meetH (fun (x : Nat × Nat) a => (a.put (some 23) (.pointer (some ⟨x.2, 0, none⟩)))) #[true, true, true, false, true, true, true, false, false, true, false, false] 5 (fun (x : Nat × Nat) W => (Env 50 w W n4 [(q20, jda), (q21, jcb), (q19, jdd), (q17, jaa), (q18, jbb), (q15, jsa), (q16, jsb), (q8, jA3), (q9, jC3), (q10, jA2), (q11, jC2), (g7, ja), (g6, j1), ((w.heap.size + 2), 0), ((w.heap.size + 1), jx), (w.heap.size, E)]) ∧ (n4 ≤ x.2 ∧ Cell 50 W x.2 0)) ?_ (fun key0_10 => ?_)
          · rintro ⟨q22, q23⟩ W ⟨hS, ⟨hn1, hc1⟩⟩
            simp only [Act.put, set1, set2, set3]
            refine wpAnyH_ready (rs := [3, 8]) (by kernel_rfl) (by simp) ?_
            refine callH (some 91) rfl rfl rfl 34 _ _ rfl (fun _ _ => by go_simp) #[.int .i64 2, nmV jda, nmV jcb] (by kernel_rfl) ?_ (allocH (some 22) rfl rfl rfl 50 rfl (nmA (lb 0)) alloc_0 (hS.alloc _) ?_ AllReadyH.nil)
            · refine (Kst.out W).mono ?_
              rintro e u ⟨rfl, hb⟩
              refine ⟨_, rfl, hS.on hb, ?_⟩
              simp only [Act.put, set1, set2, set3]
              exact key1_1.out (0, q23) _ ⟨hS.on hb, ⟨hn1, hc1.on hb⟩⟩
            · simp only [Act.put, set1, set2, set3]
              exact key0_01.out (W.heap.size, q23) _ ⟨hS.alloc _, ⟨hS.size, Cell.new _ _ 0⟩, ⟨hn1, hc1.alloc _⟩, (fun (e : W.heap.size = q23) => by have h : q23 < W.heap.size := hc1.lt; omega)⟩
          simp only [Act.put, set1, set2, set3] at key0_10
          have key0_1 := Lib.hid key0_10
          clear key0_10
          refine meetH (fun (x : Nat × Nat) a => (a.put (some 91) (nmV jst))) #[true, true, true, true, true, true, true, false, false, false, false, false] 5 (fun (x : Nat × Nat) W => (Env 50 w W n4 [(q20, jda), (q21, jcb), (q19, jdd), (q17, jaa), (q18, jbb), (q15, jsa), (q16, jsb), (q8, jA3), (q9, jC3), (q10, jA2), (q11, jC2), (g7, ja), (g6, j1), ((w.heap.size + 2), 0), ((w.heap.size + 1), jx), (w.heap.size, E)])) ?_ (fun key1_0 => ?_)
          · rintro ⟨q22, q23⟩ W hS
            simp only [Act.put, set1, set2, set3]
            refine wpAnyH_ready (rs := [7, 8, 9]) (by kernel_rfl) (by simp) ?_
            refine callH (some 95) rfl rfl rfl 35 _ _ rfl (fun _ _ => by go_simp) #[.int .i64 2, nmV jda, nmV jcb] (by kernel_rfl) ?_ (allocH (some 22) rfl rfl rfl 50 rfl (nmA (lb 0)) alloc_0 (hS.alloc _) ?_ (allocH (some 23) rfl rfl rfl 50 rfl (nmA (lb 0)) alloc_0 (hS.alloc _) ?_ AllReadyH.nil))
            · refine (Kmt.out W).mono ?_
              rintro e u ⟨rfl, hb⟩
              refine ⟨_, rfl, hS.on hb, ?_⟩
              simp only [Act.put, set1, set2, set3]
              exact key2_.out (0, 0) _ (hS.on hb)
            · simp only [Act.put, set1, set2, set3]
              exact key1_0.out (W.heap.size, 0) _ ⟨hS.alloc _, ⟨hS.size, Cell.new _ _ 0⟩⟩
            · simp only [Act.put, set1, set2, set3]
              exact key1_1.out (0, W.heap.size) _ ⟨hS.alloc _, ⟨hS.size, Cell.new _ _ 0⟩⟩
          simp only [Act.put, set1, set2, set3] at key1_0
          have key1_ := Lib.hid key1_0
          clear key1_0
          refine wpAnyH_ready (rs := [3, 8, 9]) (by kernel_rfl) (by simp) ?_
          refine callH (some 91) rfl rfl rfl 34 _ _ rfl (fun _ _ => by go_simp) #[.int .i64 2, nmV jda, nmV jcb] (by kernel_rfl) ?_ (allocH (some 22) rfl rfl rfl 50 rfl (nmA (lb 0)) alloc_0 (HSx.out.alloc _) ?_ (allocH (some 23) rfl rfl rfl 50 rfl (nmA (lb 0)) alloc_0 (HSx.out.alloc _) ?_ AllReadyH.nil))
          · refine (Kst.out wd).mono ?_
            rintro e u ⟨rfl, hb⟩
            refine ⟨_, rfl, HSx.out.on hb, ?_⟩
            simp only [Act.put, set1, set2, set3]
            exact key1_.out (0, 0) _ (HSx.out.on hb)
          · simp only [Act.put, set1, set2, set3]
            exact key0_0.out (wd.heap.size, 0) _ ⟨HSx.out.alloc _, ⟨HSx.out.size, Cell.new _ _ 0⟩⟩
          · simp only [Act.put, set1, set2, set3]
            exact key0_1.out (0, wd.heap.size) _ ⟨HSx.out.alloc _, ⟨HSx.out.size, Cell.new _ _ 0⟩⟩
        rintro ⟨q22, q23⟩ W ⟨hS, ⟨hn0, hc0⟩, ⟨hn1, hc1⟩, hd01⟩
        simp only [Act.put, set1, set2, set3]
        have HE := Lib.hid hS
        have C0 := Lib.hid hc0
        have C1 := Lib.hid hc1
        refine wpAnyH_ready (rs := [10]) (by kernel_rfl) (by simp) ?_
        refine storeH rfl rfl rfl 50 _ _ rfl q22 (nmA (lb jst)) (by kernel_rfl) (by kernel_rfl) 50 _ C0.out (by kernel_rfl) (by first | rw [nmA_size, nmA_size] | rfl) (nmA_one _) (HE.out.far _ hn0) ?_ AllReadyH.nil
        have HE := Lib.hid (HE.out.far (nmA (lb jst)) hn0)
        have C0 := Lib.hid (C0.out.put jst)
        have C1 := Lib.hid (C1.out.far (nmA (lb jst)) (fun e => hd01 e.symm))
        generalize W.setRow q22 (nmA (lb jst)) = ws0 at HE C0 C1 ⊢
        simp only [Act.put, set1, set2, set3]
        refine wpAnyH_ready (rs := [11]) (by kernel_rfl) (by simp) ?_
        refine storeH rfl rfl rfl 50 _ _ rfl q23 (nmA (lb jmt)) (by kernel_rfl) (by kernel_rfl) 50 _ C1.out (by kernel_rfl) (by first | rw [nmA_size, nmA_size] | rfl) (nmA_one _) (HE.out.far _ hn1) ?_ AllReadyH.nil
        have HE := Lib.hid (HE.out.far (nmA (lb jmt)) hn1)
        have C0 := Lib.hid (C0.out.far (nmA (lb jmt)) hd01)
        have C1 := Lib.hid (C1.out.put jmt)
        generalize ws0.setRow q23 (nmA (lb jmt)) = ws1 at HE C0 C1 ⊢
        simp only [Act.put, set1, set2, set3]
        refine wpAnyH_done (by kernel_rfl) ?_ _
        have HM := Lib.hid ((((HE.out).add (Nat.le_trans HE.out.base hn1) (HE.out.old hn1) C1.out)).add (Nat.le_trans HE.out.base hn0) (new_cons (HE.out.old hn0) hd01) C0.out)
        clear HE C0 hn0 hc0 C1 hn1 hc1 hd01
        generalize ws1.heap.size = n5 at HM
        generalize ws1 = wz at HM ⊢
        go_upto_region 19 with (fail)
        apply wp_region_lit
        refine Lw.wpList_val rfl (.int .i64 2) wz (by go_simp) ?_
        refine wpList_load_row rfl 50 _ rfl q22 (by kernel_rfl) 50 (nmA (lb jst)) (0, 0) _ (HM.out.get 0 rfl) Try.underlying50 rfl (by kernel_rfl) ?_
        refine wpList_load_row rfl 50 _ rfl q22 (by kernel_rfl) 50 (nmA (lb jst)) (0, 0) _ (HM.out.get 0 rfl) Try.underlying50 rfl (by kernel_rfl) ?_
        simp only [Act.put, set1, set2, set3]
        refine Lw.wpList_callTo (some 99) rfl rfl 36 _ _ rfl (fun _ _ => by go_simp) #[.int .i64 2, nmV jst, nmV jst] (by kernel_rfl) ?_
        refine (Kss.out wz).mono ?_
        rintro e ul ⟨rfl, hb⟩
        refine ⟨_, rfl, ?_⟩
        have HM := Lib.hid (HM.out.on hb)
        clear hb
        simp only [Act.put, set1, set2, set3]
        have hput : Env 50 w (ul.setRow q10 (nmA (lb jss))) n5 [(q22, jst), (q23, jmt), (q20, jda), (q21, jcb), (q19, jdd), (q17, jaa), (q18, jbb), (q15, jsa), (q16, jsb), (q8, jA3), (q9, jC3), (q10, jss), (q11, jC2), (g7, ja), (g6, j1), ((w.heap.size + 2), 0), ((w.heap.size + 1), jx), (w.heap.size, E)] := HM.out.put 11 (x := jA2) rfl jss
        refine wpList_store_row rfl 50 _ _ rfl q10 (nmA (lb jss)) (by kernel_rfl) (by kernel_rfl) 50 _ (HM.out.get 11 rfl) (by kernel_rfl) (by first | rw [nmA_size, nmA_size] | rfl) (nmA_one _) ?_
        have HM := Lib.hid hput
        clear hput
        generalize ul.setRow q10 (nmA (lb jss)) = wl at HM ⊢
        simp only [Act.put]
        go_upto_region 20 with (fail)
        have hSd := HM.out.drew
        clear HM
        refine wp_region_held (S := fun u => ∃ y12 : Nat, Env 50 w u n5 [(q22, jst), (q23, jmt), (q20, jda), (q21, jcb), (q19, jdd), (q17, jaa), (q18, jbb), (q15, jsa), (q16, jsb), (q8, jA3), (q9, jC3), (q10, jss), (q11, y12), (g7, ja), (g6, j1), ((w.heap.size + 2), 0), ((w.heap.size + 1), jx), (w.heap.size, E)]) (by kernel_rfl) ?_
        change wpAnyH _ _ _ _ _ _ _ _ wl.drew
        have HX := Lib.hid hSd
        have HSx : Hid ((fun u => ∃ y12 : Nat, Env 50 w u n5 [(q22, jst), (q23, jmt), (q20, jda), (q21, jcb), (q19, jdd), (q17, jaa), (q18, jbb), (q15, jsa), (q16, jsb), (q8, jA3), (q9, jC3), (q10, jss), (q11, y12), (g7, ja), (g6, j1), ((w.heap.size + 2), 0), ((w.heap.size + 1), jx), (w.heap.size, E)]) wl.drew) := ⟨jC2, hSd⟩
        clear hSd
        generalize wl.drew = wd at HX HSx ⊢
        refine takeH (i := 0) (some 100) (.int .i64 2) rfl rfl rfl (by kernel_rfl) (by kernel_rfl) (by kernel_rfl) (fun _ _ _ h => h) (fun w _ => by go_simp) HSx.out ?_
        simp only [Act.put, set1, set2, set3]
        refine takeH (i := 1) (some 101) (.agg (nmA (lb jx))) rfl rfl rfl (by kernel_rfl) (by kernel_rfl) (by kernel_rfl) (fun _ _ _ h => h) (load_row 50 _ rfl (w.heap.size + 1) (by kernel_rfl) 50 (nmA (lb jx)) (0, 0) _ Try.underlying50 rfl (by kernel_rfl) (fun w h => by obtain ⟨y12, h⟩ := h; exact h.get 16 rfl)) HSx.out ?_
        simp only [Act.put, set1, set2, set3]
        refine takeH (i := 2) (some 102) (.int .i64 2) rfl rfl rfl (by kernel_rfl) (by kernel_rfl) (by kernel_rfl) (fun _ _ _ h => h) (fun w _ => by go_simp) HSx.out ?_
        simp only [Act.put, set1, set2, set3]
        refine takeH (i := 3) (some 103) (.agg (nmA (lb jmt))) rfl rfl rfl (by kernel_rfl) (by kernel_rfl) (by kernel_rfl) (fun _ _ _ h => h) (load_row 50 _ rfl q23 (by kernel_rfl) 50 (nmA (lb jmt)) (0, 0) _ Try.underlying50 rfl (by kernel_rfl) (fun w h => by obtain ⟨y12, h⟩ := h; exact h.get 1 rfl)) HSx.out ?_
        simp only [Act.put, set1, set2, set3]
        refine takeH (i := 4) (some 104) (.agg (nmA (lb jmt))) rfl rfl rfl (by kernel_rfl) (by kernel_rfl) (by kernel_rfl) (fun _ _ _ h => h) (load_row 50 _ rfl q23 (by kernel_rfl) 50 (nmA (lb jmt)) (0, 0) _ Try.underlying50 rfl (by kernel_rfl) (fun w h => by obtain ⟨y12, h⟩ := h; exact h.get 1 rfl)) HSx.out ?_
        simp only [Act.put, set1, set2, set3]
        refine wpAnyH_ready (rs := [5]) (by kernel_rfl) (by simp) ?_
        refine callH (some 105) rfl rfl rfl 36 _ _ rfl (fun _ _ => by go_simp) #[.int .i64 2, nmV jmt, nmV jmt] (by kernel_rfl) ?_ AllReadyH.nil
        refine (Kmm.out wd).mono ?_
        rintro e uc0 ⟨rfl, hb⟩
        have HX := Lib.hid (HX.out.on hb)
        refine ⟨_, rfl, ⟨jC2, HX.out⟩, ?_⟩
        clear hb
        simp only [Act.put, set1, set2, set3]
        refine wpAnyH_ready (rs := [6]) (by kernel_rfl) (by simp) ?_
        refine callH (some 106) rfl rfl rfl 36 _ _ rfl (fun _ _ => by go_simp) #[.int .i64 2, nmV jx, nmV jmm] (by kernel_rfl) ?_ AllReadyH.nil
        refine (Kz3.out uc0).mono ?_
        rintro e uc1 ⟨rfl, hb⟩
        have HX := Lib.hid (HX.out.on hb)
        refine ⟨_, rfl, ⟨jC2, HX.out⟩, ?_⟩
        clear hb
        simp only [Act.put, set1, set2, set3]
        have hput : Env 50 w (uc1.setRow q11 (nmA (lb jz3))) n5 [(q22, jst), (q23, jmt), (q20, jda), (q21, jcb), (q19, jdd), (q17, jaa), (q18, jbb), (q15, jsa), (q16, jsb), (q8, jA3), (q9, jC3), (q10, jss), (q11, jz3), (g7, ja), (g6, j1), ((w.heap.size + 2), 0), ((w.heap.size + 1), jx), (w.heap.size, E)] := HX.out.put 12 (x := jC2) rfl jz3
        refine wpAnyH_ready (rs := [7]) (by kernel_rfl) (by simp) ?_
        refine storeH rfl rfl rfl 50 _ _ rfl q11 (nmA (lb jz3)) (by kernel_rfl) (by kernel_rfl) 50 _ (HX.out.get 12 rfl) (by kernel_rfl) (by first | rw [nmA_size, nmA_size] | rfl) (nmA_one _) ⟨jz3, hput⟩ ?_ AllReadyH.nil
        have HX := Lib.hid hput
        clear hput
        generalize uc1.setRow q11 (nmA (lb jz3)) = ws0 at HX ⊢
        simp only [Act.put]
        refine wpAnyH_done (by kernel_rfl) ?_ _
        have HM := HX
        clear HX HSx
        generalize ws0 = wz at HM ⊢
        go_upto_region 21 with (fail)
        apply wp_region_lit
        refine Lw.wpList_val rfl (.int .i64 2) wz (by go_simp) ?_
        refine wpList_load_row rfl 50 _ rfl q17 (by kernel_rfl) 50 (nmA (lb jaa)) (0, 0) _ (HM.out.get 5 rfl) Try.underlying50 rfl (by kernel_rfl) ?_
        refine wpList_load_row rfl 50 _ rfl q18 (by kernel_rfl) 50 (nmA (lb jbb)) (0, 0) _ (HM.out.get 6 rfl) Try.underlying50 rfl (by kernel_rfl) ?_
        simp only [Act.put, set1, set2, set3]
        refine Lw.wpList_callTo (some 110) rfl rfl 36 _ _ rfl (fun _ _ => by go_simp) #[.int .i64 2, nmV jaa, nmV jbb] (by kernel_rfl) ?_
        refine (Kx2.out wz).mono ?_
        rintro e ul ⟨rfl, hb⟩
        refine ⟨_, rfl, ?_⟩
        have HM := Lib.hid (HM.out.on hb)
        clear hb
        simp only [Act.put, set1, set2, set3]
        have hput : Env 50 w (ul.setRow q8 (nmA (lb jx2))) n5 [(q22, jst), (q23, jmt), (q20, jda), (q21, jcb), (q19, jdd), (q17, jaa), (q18, jbb), (q15, jsa), (q16, jsb), (q8, jx2), (q9, jC3), (q10, jss), (q11, jz3), (g7, ja), (g6, j1), ((w.heap.size + 2), 0), ((w.heap.size + 1), jx), (w.heap.size, E)] := HM.out.put 9 (x := jA3) rfl jx2
        refine wpList_store_row rfl 50 _ _ rfl q8 (nmA (lb jx2)) (by kernel_rfl) (by kernel_rfl) 50 _ (HM.out.get 9 rfl) (by kernel_rfl) (by first | rw [nmA_size, nmA_size] | rfl) (nmA_one _) ?_
        have HM := Lib.hid hput
        clear hput
        generalize ul.setRow q8 (nmA (lb jx2)) = wl at HM ⊢
        simp only [Act.put]
        go_upto_region 22 with (fail)
        have hSd := HM.out.drew
        clear HM
        refine wp_region_held (S := fun u => ∃ y10 : Nat, Env 50 w u n5 [(q22, jst), (q23, jmt), (q20, jda), (q21, jcb), (q19, jdd), (q17, jaa), (q18, jbb), (q15, jsa), (q16, jsb), (q8, jx2), (q9, y10), (q10, jss), (q11, jz3), (g7, ja), (g6, j1), ((w.heap.size + 2), 0), ((w.heap.size + 1), jx), (w.heap.size, E)]) (by kernel_rfl) ?_
        change wpAnyH _ _ _ _ _ _ _ _ wl.drew
        have HX := Lib.hid hSd
        have HSx : Hid ((fun u => ∃ y10 : Nat, Env 50 w u n5 [(q22, jst), (q23, jmt), (q20, jda), (q21, jcb), (q19, jdd), (q17, jaa), (q18, jbb), (q15, jsa), (q16, jsb), (q8, jx2), (q9, y10), (q10, jss), (q11, jz3), (g7, ja), (g6, j1), ((w.heap.size + 2), 0), ((w.heap.size + 1), jx), (w.heap.size, E)]) wl.drew) := ⟨jC3, hSd⟩
        clear hSd
        generalize wl.drew = wd at HX HSx ⊢
        refine takeH (i := 0) (some 111) (.int .i64 2) rfl rfl rfl (by kernel_rfl) (by kernel_rfl) (by kernel_rfl) (fun _ _ _ h => h) (fun w _ => by go_simp) HSx.out ?_
        simp only [Act.put, set1, set2, set3]
        refine takeH (i := 1) (some 112) (.agg (nmA (lb jdd))) rfl rfl rfl (by kernel_rfl) (by kernel_rfl) (by kernel_rfl) (fun _ _ _ h => h) (load_row 50 _ rfl q19 (by kernel_rfl) 50 (nmA (lb jdd)) (0, 0) _ Try.underlying50 rfl (by kernel_rfl) (fun w h => by obtain ⟨y10, h⟩ := h; exact h.get 4 rfl)) HSx.out ?_
        simp only [Act.put, set1, set2, set3]
        refine takeH (i := 2) (some 113) (.int .i64 2) rfl rfl rfl (by kernel_rfl) (by kernel_rfl) (by kernel_rfl) (fun _ _ _ h => h) (fun w _ => by go_simp) HSx.out ?_
        simp only [Act.put, set1, set2, set3]
        refine takeH (i := 3) (some 114) (.agg (nmA (lb jaa))) rfl rfl rfl (by kernel_rfl) (by kernel_rfl) (by kernel_rfl) (fun _ _ _ h => h) (load_row 50 _ rfl q17 (by kernel_rfl) 50 (nmA (lb jaa)) (0, 0) _ Try.underlying50 rfl (by kernel_rfl) (fun w h => by obtain ⟨y10, h⟩ := h; exact h.get 5 rfl)) HSx.out ?_
        simp only [Act.put, set1, set2, set3]
        refine takeH (i := 4) (some 115) (.int .i64 2) rfl rfl rfl (by kernel_rfl) (by kernel_rfl) (by kernel_rfl) (fun _ _ _ h => h) (fun w _ => by go_simp) HSx.out ?_
        simp only [Act.put, set1, set2, set3]
        refine takeH (i := 5) (some 116) (.agg (nmA (lb ja))) rfl rfl rfl (by kernel_rfl) (by kernel_rfl) (by kernel_rfl) (fun _ _ _ h => h) (load_row 50 _ rfl g7 (by kernel_rfl) 50 (nmA (lb ja)) (0, 0) _ Try.underlying50 rfl (by kernel_rfl) (fun w h => by obtain ⟨y10, h⟩ := h; exact h.get 13 rfl)) HSx.out ?_
        simp only [Act.put, set1, set2, set3]
        refine takeH (i := 6) (some 117) (.agg (nmA (lb jdd))) rfl rfl rfl (by kernel_rfl) (by kernel_rfl) (by kernel_rfl) (fun _ _ _ h => h) (load_row 50 _ rfl q19 (by kernel_rfl) 50 (nmA (lb jdd)) (0, 0) _ Try.underlying50 rfl (by kernel_rfl) (fun w h => by obtain ⟨y10, h⟩ := h; exact h.get 4 rfl)) HSx.out ?_
        simp only [Act.put, set1, set2, set3]
        refine wpAnyH_ready (rs := [7]) (by kernel_rfl) (by simp) ?_
        refine callH (some 118) rfl rfl rfl 36 _ _ rfl (fun _ _ => by go_simp) #[.int .i64 2, nmV ja, nmV jdd] (by kernel_rfl) ?_ AllReadyH.nil
        refine (Kfa.out wd).mono ?_
        rintro e uc0 ⟨rfl, hb⟩
        have HX := Lib.hid (HX.out.on hb)
        refine ⟨_, rfl, ⟨jC3, HX.out⟩, ?_⟩
        clear hb
        simp only [Act.put, set1, set2, set3]
        refine wpAnyH_ready (rs := [8]) (by kernel_rfl) (by simp) ?_
        refine callH (some 119) rfl rfl rfl 34 _ _ rfl (fun _ _ => by go_simp) #[.int .i64 2, nmV jaa, nmV jfa] (by kernel_rfl) ?_ AllReadyH.nil
        refine (Kfb.out uc0).mono ?_
        rintro e uc1 ⟨rfl, hb⟩
        have HX := Lib.hid (HX.out.on hb)
        refine ⟨_, rfl, ⟨jC3, HX.out⟩, ?_⟩
        clear hb
        simp only [Act.put, set1, set2, set3]
        refine wpAnyH_ready (rs := [9]) (by kernel_rfl) (by simp) ?_
        refine callH (some 120) rfl rfl rfl 36 _ _ rfl (fun _ _ => by go_simp) #[.int .i64 2, nmV jdd, nmV jfb] (by kernel_rfl) ?_ AllReadyH.nil
        refine (Kz2.out uc1).mono ?_
        rintro e uc2 ⟨rfl, hb⟩
        have HX := Lib.hid (HX.out.on hb)
        refine ⟨_, rfl, ⟨jC3, HX.out⟩, ?_⟩
        clear hb
        simp only [Act.put, set1, set2, set3]
        have hput : Env 50 w (uc2.setRow q9 (nmA (lb jz2))) n5 [(q22, jst), (q23, jmt), (q20, jda), (q21, jcb), (q19, jdd), (q17, jaa), (q18, jbb), (q15, jsa), (q16, jsb), (q8, jx2), (q9, jz2), (q10, jss), (q11, jz3), (g7, ja), (g6, j1), ((w.heap.size + 2), 0), ((w.heap.size + 1), jx), (w.heap.size, E)] := HX.out.put 10 (x := jC3) rfl jz2
        refine wpAnyH_ready (rs := [10]) (by kernel_rfl) (by simp) ?_
        refine storeH rfl rfl rfl 50 _ _ rfl q9 (nmA (lb jz2)) (by kernel_rfl) (by kernel_rfl) 50 _ (HX.out.get 10 rfl) (by kernel_rfl) (by first | rw [nmA_size, nmA_size] | rfl) (nmA_one _) ⟨jz2, hput⟩ ?_ AllReadyH.nil
        have HX := Lib.hid hput
        clear hput
        generalize uc2.setRow q9 (nmA (lb jz2)) = ws0 at HX ⊢
        simp only [Act.put]
        refine wpAnyH_done (by kernel_rfl) ?_ _
        have HM := HX
        clear HX HSx
        generalize ws0 = wz at HM ⊢
        clear Ksa Ksb Kaa Kbb Kdd Kea Kda Keb Kcb Kst Kmt Kss Kmm Kz3 Kx2 Kfa Kfb Kz2
        have HM := Lib.hid (HM.out.drop 9)
        go_wp2_with (fail)
        refine ⟨⟨j + 1, c, n5, x2, z2, ss, z3, HJ.out, HCb.out, HTn.out, rfl, ?_, ?_⟩, HMs.out⟩
        · show _ = _
          rw [HSn.out, HSs.out]
          exact step_done HD.out
        · obtain ⟨k1, k2, k3, k4⟩ := HKj.out
          rw [k1, k2, k3, k4]; exact HM
    · obtain rfl : j = 255 := by have := hj.out; omega
      have t0 : ((0 : Int) ≤ 254 - ((255 : Nat) : Int)) = False := eq_false (by omega)
      have t0' : ¬ (0 : Int) ≤ 254 - ((255 : Nat) : Int) := by omega
      obtain ⟨I, hI⟩ : ∃ I : Int, 254 - ((255 : Nat) : Int) = I := ⟨_, rfl⟩
      rw [hI] at t0 t0' ⊢
      clear hlt hj hI
      rcases Nat.lt_or_ge 0 b with hb1 | hb0
      · obtain rfl : b = 1 := by have := hb2.out; omega
        have hl := HSs.out
        rw [if_neg (by decide)] at hl
        have HR : Hid ((A3 * Ec.iv C3).val = R) := by show _ = _; rw [← hR.out]; unfold Ec.ladU; rw [hl]
        rw [show ((1 : Nat) : Int) = 1 from rfl]
        clear hl HSs hb1 hb2
        obtain ⟨jA2, kA2⟩ : ∃ j, J A2 = j := ⟨_, rfl⟩
        obtain ⟨jC2, kC2⟩ : ∃ j, J C2 = j := ⟨_, rfl⟩
        obtain ⟨jA3, kA3⟩ : ∃ j, J A3 = j := ⟨_, rfl⟩
        obtain ⟨jC3, kC3⟩ : ∃ j, J C3 = j := ⟨_, rfl⟩
        rw [kA2, kC2, kA3, kC3] at HM
        obtain ⟨jiv, kiv⟩ : ∃ j, J (Ec.iv C3) = j := ⟨_, rfl⟩
        obtain ⟨jpr, kpr⟩ : ∃ j, J (A3 * Ec.iv C3) = j := ⟨_, rfl⟩
        have Kiv : Hid (∀ u : World, Calls Try.prog 38 #[.int .i64 2, nmV jC3] u fun e u' => e = .returned (nmV jiv) ∧ Below u.heap.size u u') := fun u => by
          have := HPw.out C3 u
          rw [kC3, kiv] at this
          exact this
        have Kpr : Hid (∀ u : World, Calls Try.prog 36 #[.int .i64 2, nmV jA3, nmV jiv] u fun e u' => e = .returned (nmV jpr) ∧ Below u.heap.size u u') := fun u => by
          have := HMu.out A3 (Ec.iv C3) u
          rw [kA3, kiv, kpr] at this
          exact this
        have KR : Hid (∀ u : World, Calls Try.prog 37 #[.int .i64 2, nmV jpr] u fun e u' => e = .returned (nmV R) ∧ Below u.heap.size u u') := fun u => by
          have := HOu.out (A3 * Ec.iv C3) u
          rw [kpr, HR.out] at this
          exact this
        clear kA2 kC2 kA3 kC3 kiv kpr HR
        go_upto_region 24 with (fail)
        have hSd := HM.out.drew
        clear HM
        refine wp_region_held (S := fun u => ∃ y0 y1 : Nat, Env 50 w u n0 [(q8, y0), (q9, y1), (q10, jA3), (q11, jC3), (g7, ja), (g6, j1), ((w.heap.size + 2), 0), ((w.heap.size + 1), jx), (w.heap.size, E)]) (by kernel_rfl) ?_
        change wpAnyH _ _ _ _ _ _ _ _ wr.drew
        have HX := Lib.hid hSd
        have HSx : Hid ((fun u => ∃ y0 y1 : Nat, Env 50 w u n0 [(q8, y0), (q9, y1), (q10, jA3), (q11, jC3), (g7, ja), (g6, j1), ((w.heap.size + 2), 0), ((w.heap.size + 1), jx), (w.heap.size, E)]) wr.drew) := ⟨jA2, jC2, hSd⟩
        clear hSd
        generalize wr.drew = wd at HX HSx ⊢
        refine takeH (i := 0) (some 123) (.agg (nmA (lb jA3))) rfl rfl rfl (by kernel_rfl) (by kernel_rfl) (by kernel_rfl) (fun _ _ _ h => h) (load_row 50 _ rfl q10 (by kernel_rfl) 50 (nmA (lb jA3)) (0, 0) _ Try.underlying50 rfl (by kernel_rfl) (fun w h => by obtain ⟨y0, y1, h⟩ := h; exact h.get 2 rfl)) HSx.out ?_
        simp only [Act.put, set1, set2, set3]
        refine takeH (i := 1) (some 124) (.agg (nmA (lb jC3))) rfl rfl rfl (by kernel_rfl) (by kernel_rfl) (by kernel_rfl) (fun _ _ _ h => h) (load_row 50 _ rfl q11 (by kernel_rfl) 50 (nmA (lb jC3)) (0, 0) _ Try.underlying50 rfl (by kernel_rfl) (fun w h => by obtain ⟨y0, y1, h⟩ := h; exact h.get 3 rfl)) HSx.out ?_
        simp only [Act.put, set1, set2, set3]
        have hput : Env 50 w (wd.setRow q8 (nmA (lb jA3))) n0 [(q8, jA3), (q9, jC2), (q10, jA3), (q11, jC3), (g7, ja), (g6, j1), ((w.heap.size + 2), 0), ((w.heap.size + 1), jx), (w.heap.size, E)] := HX.out.put 0 (x := jA2) rfl jA3
        refine wpAnyH_ready (rs := [2]) (by kernel_rfl) (by simp) ?_
        refine storeH rfl rfl rfl 50 _ _ rfl q8 (nmA (lb jA3)) (by kernel_rfl) (by kernel_rfl) 50 _ (HX.out.get 0 rfl) (by kernel_rfl) (by first | rw [nmA_size, nmA_size] | rfl) (nmA_one _) ⟨jA3, jC2, hput⟩ ?_ AllReadyH.nil
        have HX := Lib.hid hput
        clear hput
        generalize wd.setRow q8 (nmA (lb jA3)) = ws0 at HX ⊢
        simp only [Act.put]
        have hput : Env 50 w (ws0.setRow q9 (nmA (lb jC3))) n0 [(q8, jA3), (q9, jC3), (q10, jA3), (q11, jC3), (g7, ja), (g6, j1), ((w.heap.size + 2), 0), ((w.heap.size + 1), jx), (w.heap.size, E)] := HX.out.put 1 (x := jC2) rfl jC3
        refine wpAnyH_ready (rs := [3]) (by kernel_rfl) (by simp) ?_
        refine storeH rfl rfl rfl 50 _ _ rfl q9 (nmA (lb jC3)) (by kernel_rfl) (by kernel_rfl) 50 _ (HX.out.get 1 rfl) (by kernel_rfl) (by first | rw [nmA_size, nmA_size] | rfl) (nmA_one _) ⟨jA3, jC3, hput⟩ ?_ AllReadyH.nil
        have HX := Lib.hid hput
        clear hput
        generalize ws0.setRow q9 (nmA (lb jC3)) = ws1 at HX ⊢
        simp only [Act.put]
        refine wpAnyH_done (by kernel_rfl) ?_ _
        have HM := HX
        clear HX HSx
        generalize ws1 = wz at HM ⊢
        go_upto_region 25 with (fail)
        have hSd := HM.out.drew
        clear HM
        refine wp_region_held (S := fun u => ∃ y6 : Nat, Env 50 w u n0 [(q8, jA3), (q9, jC3), (q10, jA3), (q11, jC3), (g7, ja), (g6, j1), ((w.heap.size + 2), y6), ((w.heap.size + 1), jx), (w.heap.size, E)]) (by kernel_rfl) ?_
        change wpAnyH _ _ _ _ _ _ _ _ wz.drew
        have HX := Lib.hid hSd
        have HSx : Hid ((fun u => ∃ y6 : Nat, Env 50 w u n0 [(q8, jA3), (q9, jC3), (q10, jA3), (q11, jC3), (g7, ja), (g6, j1), ((w.heap.size + 2), y6), ((w.heap.size + 1), jx), (w.heap.size, E)]) wz.drew) := ⟨0, hSd⟩
        clear hSd
        generalize wz.drew = wd at HX HSx ⊢
        refine takeH (i := 0) (some 125) (.int .i64 2) rfl rfl rfl (by kernel_rfl) (by kernel_rfl) (by kernel_rfl) (fun _ _ _ h => h) (fun w _ => by go_simp) HSx.out ?_
        simp only [Act.put, set1, set2, set3]
        refine takeH (i := 1) (some 126) (.int .i64 2) rfl rfl rfl (by kernel_rfl) (by kernel_rfl) (by kernel_rfl) (fun _ _ _ h => h) (fun w _ => by go_simp) HSx.out ?_
        simp only [Act.put, set1, set2, set3]
        refine takeH (i := 2) (some 127) (.agg (nmA (lb jA3))) rfl rfl rfl (by kernel_rfl) (by kernel_rfl) (by kernel_rfl) (fun _ _ _ h => h) (load_row 50 _ rfl q8 (by kernel_rfl) 50 (nmA (lb jA3)) (0, 0) _ Try.underlying50 rfl (by kernel_rfl) (fun w h => by obtain ⟨y6, h⟩ := h; exact h.get 0 rfl)) HSx.out ?_
        simp only [Act.put, set1, set2, set3]
        refine takeH (i := 3) (some 128) (.int .i64 2) rfl rfl rfl (by kernel_rfl) (by kernel_rfl) (by kernel_rfl) (fun _ _ _ h => h) (fun w _ => by go_simp) HSx.out ?_
        simp only [Act.put, set1, set2, set3]
        refine takeH (i := 4) (some 129) (.agg (nmA (lb jC3))) rfl rfl rfl (by kernel_rfl) (by kernel_rfl) (by kernel_rfl) (fun _ _ _ h => h) (load_row 50 _ rfl q9 (by kernel_rfl) 50 (nmA (lb jC3)) (0, 0) _ Try.underlying50 rfl (by kernel_rfl) (fun w h => by obtain ⟨y6, h⟩ := h; exact h.get 1 rfl)) HSx.out ?_
        simp only [Act.put, set1, set2, set3]
        refine wpAnyH_ready (rs := [5]) (by kernel_rfl) (by simp) ?_
        refine callH (some 130) rfl rfl rfl 38 _ _ rfl (fun _ _ => by go_simp) #[.int .i64 2, nmV jC3] (by kernel_rfl) ?_ AllReadyH.nil
        refine (Kiv.out wd).mono ?_
        rintro e uc0 ⟨rfl, hb⟩
        have HX := Lib.hid (HX.out.on hb)
        refine ⟨_, rfl, ⟨0, HX.out⟩, ?_⟩
        clear hb
        simp only [Act.put, set1, set2, set3]
        refine wpAnyH_ready (rs := [6]) (by kernel_rfl) (by simp) ?_
        refine callH (some 131) rfl rfl rfl 36 _ _ rfl (fun _ _ => by go_simp) #[.int .i64 2, nmV jA3, nmV jiv] (by kernel_rfl) ?_ AllReadyH.nil
        refine (Kpr.out uc0).mono ?_
        rintro e uc1 ⟨rfl, hb⟩
        have HX := Lib.hid (HX.out.on hb)
        refine ⟨_, rfl, ⟨0, HX.out⟩, ?_⟩
        clear hb
        simp only [Act.put, set1, set2, set3]
        refine wpAnyH_ready (rs := [7]) (by kernel_rfl) (by simp) ?_
        refine callH (some 132) rfl rfl rfl 37 _ _ rfl (fun _ _ => by go_simp) #[.int .i64 2, nmV jpr] (by kernel_rfl) ?_ AllReadyH.nil
        refine (KR.out uc1).mono ?_
        rintro e uc2 ⟨rfl, hb⟩
        have HX := Lib.hid (HX.out.on hb)
        refine ⟨_, rfl, ⟨0, HX.out⟩, ?_⟩
        clear hb
        simp only [Act.put, set1, set2, set3]
        have hput : Env 50 w (uc2.setRow (w.heap.size + 2) (nmA (lb R))) n0 [(q8, jA3), (q9, jC3), (q10, jA3), (q11, jC3), (g7, ja), (g6, j1), ((w.heap.size + 2), R), ((w.heap.size + 1), jx), (w.heap.size, E)] := HX.out.put 6 (x := 0) rfl R
        refine wpAnyH_ready (rs := [8]) (by kernel_rfl) (by simp) ?_
        refine storeH rfl rfl rfl 50 _ _ rfl (w.heap.size + 2) (nmA (lb R)) (by kernel_rfl) (by kernel_rfl) 50 _ (HX.out.get 6 rfl) (by kernel_rfl) (by first | rw [nmA_size, nmA_size] | rfl) (nmA_one _) ⟨R, hput⟩ ?_ AllReadyH.nil
        have HX := Lib.hid hput
        clear hput
        generalize uc2.setRow (w.heap.size + 2) (nmA (lb R)) = ws0 at HX ⊢
        simp only [Act.put]
        refine wpAnyH_done (by kernel_rfl) ?_ _
        have HM := HX
        clear HX HSx
        generalize ws0 = wz at HM ⊢
        obtain ⟨A, hA⟩ : ∃ A, nmA (lb R) = A := ⟨_, rfl⟩
        have HN := Lib.hid (HM.out.get 6 (g := w.heap.size + 2) (x := R) rfl)
        rw [hA] at HN
        go_step
        go_step
        go_step
        refine bodyPost_ret (v := .agg A) ?_ rfl ?_
        · exact results_cell_row (fn := Try.f25) Try.results25 _ _ (w.heap.size + 2) 50 _ (0, 0) _ rfl HN.out Try.underlying50 rfl (by rw [← hA]; kernel_rfl)
        · exact ⟨by rw [← hA]; rfl, HM.out.below⟩
      · obtain rfl : b = 0 := by omega
        have hl := HSs.out
        rw [if_pos rfl] at hl
        have HR : Hid ((A2 * Ec.iv C2).val = R) := by show _ = _; rw [← hR.out]; unfold Ec.ladU; rw [hl]
        rw [show ((0 : Nat) : Int) = 0 from rfl]
        clear hl HSs hb0 hb2
        obtain ⟨jA2, kA2⟩ : ∃ j, J A2 = j := ⟨_, rfl⟩
        obtain ⟨jC2, kC2⟩ : ∃ j, J C2 = j := ⟨_, rfl⟩
        obtain ⟨jA3, kA3⟩ : ∃ j, J A3 = j := ⟨_, rfl⟩
        obtain ⟨jC3, kC3⟩ : ∃ j, J C3 = j := ⟨_, rfl⟩
        rw [kA2, kC2, kA3, kC3] at HM
        obtain ⟨jiv, kiv⟩ : ∃ j, J (Ec.iv C2) = j := ⟨_, rfl⟩
        obtain ⟨jpr, kpr⟩ : ∃ j, J (A2 * Ec.iv C2) = j := ⟨_, rfl⟩
        have Kiv : Hid (∀ u : World, Calls Try.prog 38 #[.int .i64 2, nmV jC2] u fun e u' => e = .returned (nmV jiv) ∧ Below u.heap.size u u') := fun u => by
          have := HPw.out C2 u
          rw [kC2, kiv] at this
          exact this
        have Kpr : Hid (∀ u : World, Calls Try.prog 36 #[.int .i64 2, nmV jA2, nmV jiv] u fun e u' => e = .returned (nmV jpr) ∧ Below u.heap.size u u') := fun u => by
          have := HMu.out A2 (Ec.iv C2) u
          rw [kA2, kiv, kpr] at this
          exact this
        have KR : Hid (∀ u : World, Calls Try.prog 37 #[.int .i64 2, nmV jpr] u fun e u' => e = .returned (nmV R) ∧ Below u.heap.size u u') := fun u => by
          have := HOu.out (A2 * Ec.iv C2) u
          rw [kpr, HR.out] at this
          exact this
        clear kA2 kC2 kA3 kC3 kiv kpr HR
        go_upto_region 25 with (fail)
        have hSd := HM.out.drew
        clear HM
        refine wp_region_held (S := fun u => ∃ y6 : Nat, Env 50 w u n0 [(q8, jA2), (q9, jC2), (q10, jA3), (q11, jC3), (g7, ja), (g6, j1), ((w.heap.size + 2), y6), ((w.heap.size + 1), jx), (w.heap.size, E)]) (by kernel_rfl) ?_
        change wpAnyH _ _ _ _ _ _ _ _ wr.drew
        have HX := Lib.hid hSd
        have HSx : Hid ((fun u => ∃ y6 : Nat, Env 50 w u n0 [(q8, jA2), (q9, jC2), (q10, jA3), (q11, jC3), (g7, ja), (g6, j1), ((w.heap.size + 2), y6), ((w.heap.size + 1), jx), (w.heap.size, E)]) wr.drew) := ⟨0, hSd⟩
        clear hSd
        generalize wr.drew = wd at HX HSx ⊢
        refine takeH (i := 0) (some 125) (.int .i64 2) rfl rfl rfl (by kernel_rfl) (by kernel_rfl) (by kernel_rfl) (fun _ _ _ h => h) (fun w _ => by go_simp) HSx.out ?_
        simp only [Act.put, set1, set2, set3]
        refine takeH (i := 1) (some 126) (.int .i64 2) rfl rfl rfl (by kernel_rfl) (by kernel_rfl) (by kernel_rfl) (fun _ _ _ h => h) (fun w _ => by go_simp) HSx.out ?_
        simp only [Act.put, set1, set2, set3]
        refine takeH (i := 2) (some 127) (.agg (nmA (lb jA2))) rfl rfl rfl (by kernel_rfl) (by kernel_rfl) (by kernel_rfl) (fun _ _ _ h => h) (load_row 50 _ rfl q8 (by kernel_rfl) 50 (nmA (lb jA2)) (0, 0) _ Try.underlying50 rfl (by kernel_rfl) (fun w h => by obtain ⟨y6, h⟩ := h; exact h.get 0 rfl)) HSx.out ?_
        simp only [Act.put, set1, set2, set3]
        refine takeH (i := 3) (some 128) (.int .i64 2) rfl rfl rfl (by kernel_rfl) (by kernel_rfl) (by kernel_rfl) (fun _ _ _ h => h) (fun w _ => by go_simp) HSx.out ?_
        simp only [Act.put, set1, set2, set3]
        refine takeH (i := 4) (some 129) (.agg (nmA (lb jC2))) rfl rfl rfl (by kernel_rfl) (by kernel_rfl) (by kernel_rfl) (fun _ _ _ h => h) (load_row 50 _ rfl q9 (by kernel_rfl) 50 (nmA (lb jC2)) (0, 0) _ Try.underlying50 rfl (by kernel_rfl) (fun w h => by obtain ⟨y6, h⟩ := h; exact h.get 1 rfl)) HSx.out ?_
        simp only [Act.put, set1, set2, set3]
        refine wpAnyH_ready (rs := [5]) (by kernel_rfl) (by simp) ?_
        refine callH (some 130) rfl rfl rfl 38 _ _ rfl (fun _ _ => by go_simp) #[.int .i64 2, nmV jC2] (by kernel_rfl) ?_ AllReadyH.nil
        refine (Kiv.out wd).mono ?_
        rintro e uc0 ⟨rfl, hb⟩
        have HX := Lib.hid (HX.out.on hb)
        refine ⟨_, rfl, ⟨0, HX.out⟩, ?_⟩
        clear hb
        simp only [Act.put, set1, set2, set3]
        refine wpAnyH_ready (rs := [6]) (by kernel_rfl) (by simp) ?_
        refine callH (some 131) rfl rfl rfl 36 _ _ rfl (fun _ _ => by go_simp) #[.int .i64 2, nmV jA2, nmV jiv] (by kernel_rfl) ?_ AllReadyH.nil
        refine (Kpr.out uc0).mono ?_
        rintro e uc1 ⟨rfl, hb⟩
        have HX := Lib.hid (HX.out.on hb)
        refine ⟨_, rfl, ⟨0, HX.out⟩, ?_⟩
        clear hb
        simp only [Act.put, set1, set2, set3]
        refine wpAnyH_ready (rs := [7]) (by kernel_rfl) (by simp) ?_
        refine callH (some 132) rfl rfl rfl 37 _ _ rfl (fun _ _ => by go_simp) #[.int .i64 2, nmV jpr] (by kernel_rfl) ?_ AllReadyH.nil
        refine (KR.out uc1).mono ?_
        rintro e uc2 ⟨rfl, hb⟩
        have HX := Lib.hid (HX.out.on hb)
        refine ⟨_, rfl, ⟨0, HX.out⟩, ?_⟩
        clear hb
        simp only [Act.put, set1, set2, set3]
        have hput : Env 50 w (uc2.setRow (w.heap.size + 2) (nmA (lb R))) n0 [(q8, jA2), (q9, jC2), (q10, jA3), (q11, jC3), (g7, ja), (g6, j1), ((w.heap.size + 2), R), ((w.heap.size + 1), jx), (w.heap.size, E)] := HX.out.put 6 (x := 0) rfl R
        refine wpAnyH_ready (rs := [8]) (by kernel_rfl) (by simp) ?_
        refine storeH rfl rfl rfl 50 _ _ rfl (w.heap.size + 2) (nmA (lb R)) (by kernel_rfl) (by kernel_rfl) 50 _ (HX.out.get 6 rfl) (by kernel_rfl) (by first | rw [nmA_size, nmA_size] | rfl) (nmA_one _) ⟨R, hput⟩ ?_ AllReadyH.nil
        have HX := Lib.hid hput
        clear hput
        generalize uc2.setRow (w.heap.size + 2) (nmA (lb R)) = ws0 at HX ⊢
        simp only [Act.put]
        refine wpAnyH_done (by kernel_rfl) ?_ _
        have HM := HX
        clear HX HSx
        generalize ws0 = wz at HM ⊢
        obtain ⟨A, hA⟩ : ∃ A, nmA (lb R) = A := ⟨_, rfl⟩
        have HN := Lib.hid (HM.out.get 6 (g := w.heap.size + 2) (x := R) rfl)
        rw [hA] at HN
        go_step
        go_step
        go_step
        refine bodyPost_ret (v := .agg A) ?_ rfl ?_
        · exact results_cell_row (fn := Try.f25) Try.results25 _ _ (w.heap.size + 2) 50 _ (0, 0) _ rfl HN.out Try.underlying50 rfl (by rw [← hA]; kernel_rfl)
        · exact ⟨by rw [← hA]; rfl, HM.out.below⟩
end Go.Proofs.Xu
