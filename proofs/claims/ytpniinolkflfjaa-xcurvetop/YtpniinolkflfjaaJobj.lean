/-
  The developers' X25519: two points exchanged if a bit is 1.
-/
import Derived.Test.YtpniinolkflfjaaJobi
namespace Go.Proofs.Xe
open Go.RowKit
open Go.Proofs.Im (words_heap)
open Go.Proofs.Sha (wordCells wordCells_get)
open Go.Proofs.Nt
open Go.Proofs.Nu (nmL lt8)
open Go.Proofs.Nd (fdA fdV fdA_one lt16)
open Go.Proofs.Rt (ready_callTo)
open Go.Proofs.Eo (Cell)
/-- The words of a point. -/
def dd (x z i : Nat) : Nat := (nmL (lb x) ++ nmL (lb z)).getD i 0
theorem dd_lt (x z i : Nat) : dd x z i < 4294967296 := by
  by_cases h : i < 16
  · exact lt16 (P := fun i => dd x z i < 4294967296) (lb_lt x 0) (lb_lt x 1) (lb_lt x 2) (lb_lt x 3) (lb_lt x 4) (lb_lt x 5) (lb_lt x 6) (lb_lt x 7) (lb_lt z 0) (lb_lt z 1) (lb_lt z 2) (lb_lt z 3) (lb_lt z 4) (lb_lt z 5) (lb_lt z 6) (lb_lt z 7) i h
  · unfold dd
    rw [List.getD_eq_getElem?_getD, List.getElem?_eq_none (by simp [nmL]; omega)]
    decide
theorem cell_row {w : World} {g x z : Nat} (h : Cell w g (62, fdA x z)) : w.rowIs g 62 16 (fun i => .int .u32 (dd x z i : Nat)) := ⟨fdA x z, h, rfl, fun i hi => wordCells_get _ _ i hi⟩
theorem row_cell {w : World} {g x z : Nat} (h : w.rowIs g 62 16 (fun i => .int .u32 (dd x z i : Nat))) : Cell w g (62, fdA x z) := words_heap h (nmL (lb x) ++ nmL (lb z)) rfl fun _ _ => rfl
/-- Words exchanged all, or none. -/
def sw (b : Nat) (d e : Nat → Nat) (i : Nat) : Nat := if b = 1 then e i else d i
theorem xm_full {d e : Nat → Nat} {i : Nat} (h1 : d i < 4294967296) (h2 : e i < 4294967296) : xm 4294967295 d e i = d i ^^^ e i := by
  unfold xm
  rw [show (4294967295 : Nat) = 2 ^ 32 - 1 by decide, Nat.and_two_pow_sub_one_eq_mod]
  exact Nat.mod_eq_of_lt (Nat.xor_lt_two_pow (n := 32) h1 h2)
theorem xm_none (d e : Nat → Nat) (i : Nat) : xm 0 d e i = 0 := Nat.and_zero _
theorem turned_full {d e : Nat → Nat} (h1 : ∀ i, d i < 4294967296) (h2 : ∀ i, e i < 4294967296) (i : Nat) : d i ^^^ xm 4294967295 d e i = e i := by
  rw [xm_full (h1 i) (h2 i), ← Nat.xor_assoc, Nat.xor_self, Nat.zero_xor]
theorem turned_full' {d e : Nat → Nat} (h1 : ∀ i, d i < 4294967296) (h2 : ∀ i, e i < 4294967296) (i : Nat) : e i ^^^ xm 4294967295 d e i = d i := by
  rw [xm_full (h1 i) (h2 i), Nat.xor_comm (d i), ← Nat.xor_assoc, Nat.xor_self, Nat.zero_xor]
/-- One exchange. -/
def s1 (M o : Nat) (d e : Nat → Nat) : Nat → Nat := tu o 8 (fun i => d i ^^^ xm M d e i) d
def s2 (M o : Nat) (d e : Nat → Nat) : Nat → Nat := tu o 8 (fun i => e i ^^^ xm M d e i) e
theorem s1_full {o : Nat} {d e : Nat → Nat} (h1 : ∀ i, d i < 4294967296) (h2 : ∀ i, e i < 4294967296) (i : Nat) : s1 4294967295 o d e i = if o ≤ i ∧ i < o + 8 then e i else d i := by
  unfold s1 tu; dsimp only; rw [turned_full h1 h2 i]
theorem s2_full {o : Nat} {d e : Nat → Nat} (h1 : ∀ i, d i < 4294967296) (h2 : ∀ i, e i < 4294967296) (i : Nat) : s2 4294967295 o d e i = if o ≤ i ∧ i < o + 8 then d i else e i := by
  unfold s2 tu; dsimp only; rw [turned_full' h1 h2 i]
theorem s1_none (o : Nat) (d e : Nat → Nat) (i : Nat) : s1 0 o d e i = d i := by unfold s1 tu; dsimp only; rw [xm_none, Nat.xor_zero, ite_self]
theorem s2_none (o : Nat) (d e : Nat → Nat) (i : Nat) : s2 0 o d e i = e i := by unfold s2 tu; dsimp only; rw [xm_none, Nat.xor_zero, ite_self]
theorem xor_lt {d e : Nat → Nat} {M : Nat} (h1 : ∀ i, d i < 4294967296) (h2 : ∀ i, e i < 4294967296) (i : Nat) : xm M d e i < 4294967296 := Nat.lt_of_le_of_lt Nat.and_le_left (Nat.xor_lt_two_pow (n := 32) (h1 i) (h2 i))
theorem s1_lt {M o : Nat} {d e : Nat → Nat} (h1 : ∀ i, d i < 4294967296) (h2 : ∀ i, e i < 4294967296) (i : Nat) : s1 M o d e i < 4294967296 := by
  unfold s1 tu; split
  · exact Nat.xor_lt_two_pow (n := 32) (h1 i) (xor_lt h1 h2 i)
  · exact h1 i
theorem s2_lt {M o : Nat} {d e : Nat → Nat} (h1 : ∀ i, d i < 4294967296) (h2 : ∀ i, e i < 4294967296) (i : Nat) : s2 M o d e i < 4294967296 := by
  unfold s2 tu; split
  · exact Nat.xor_lt_two_pow (n := 32) (h2 i) (xor_lt h1 h2 i)
  · exact h2 i
set_option maxHeartbeats 4000000 in
set_option maxRecDepth 20000 in
theorem swap_raw (b M p q : Nat) (d e : Nat → Nat) (w : World) (hb : IntKind.u32.wrap (-(b : Int)) = (M : Int)) (hM : M < 4294967296) (hd : ∀ i, d i < 4294967296) (he : ∀ i, e i < 4294967296) (hpq : ¬ p = q) (H : Pair p q w w d e) :
    Calls Try.prog 30 #[.int .u32 (b : Nat), .pointer (some ⟨p, 0, none⟩), .pointer (some ⟨q, 0, none⟩)] w fun x u => x = .returned (.tuple #[]) ∧ Pair p q w u (s1 M 8 (s1 M 0 d e) (s2 M 0 d e)) (s2 M 8 (s1 M 0 d e) (s2 M 0 d e)) := by
  have K0 : Hid (∀ u : World, u.rowIs p 62 16 (fun i => .int .u32 (d i : Nat)) → u.rowIs q 62 16 (fun i => .int .u32 (e i : Nat)) → Calls Try.prog 42 #[.int .u32 (M : Nat), .pointer (some ⟨p, 0, none⟩), .pointer (some ⟨q, 0, none⟩)] u fun x v => x = .returned (.tuple #[]) ∧ Pair p q u v (s1 M 0 d e) (s2 M 0 d e)) := fun u h1 h2 => exchange_any M p q 0 d e u hM hd he (by decide) hpq (Pair.self h1 h2)
  have K8 : Hid (∀ u : World, u.rowIs p 62 16 (fun i => .int .u32 (s1 M 0 d e i : Nat)) → u.rowIs q 62 16 (fun i => .int .u32 (s2 M 0 d e i : Nat)) → Calls Try.prog 42 #[.int .u32 (M : Nat), .pointer (some ⟨p, 8, none⟩), .pointer (some ⟨q, 8, none⟩)] u fun x v => x = .returned (.tuple #[]) ∧ Pair p q u v (s1 M 8 (s1 M 0 d e) (s2 M 0 d e)) (s2 M 8 (s1 M 0 d e) (s2 M 0 d e))) := fun u h1 h2 => exchange_any M p q 8 _ _ u hM (s1_lt hd he) (s2_lt hd he) (by decide) hpq (Pair.self h1 h2)
  have HM := Lib.hid H
  have HB0 := Lib.hid hb
  clear H hd he hM hpq hb
  generalize s2 M 8 (s1 M 0 d e) (s2 M 0 d e) = e2 at K8 ⊢
  generalize s1 M 8 (s1 M 0 d e) (s2 M 0 d e) = d2 at K8 ⊢
  generalize s2 M 0 d e = e1 at K0 K8
  generalize s1 M 0 d e = d1 at K0 K8
  go_enter Try.func30, Try.ntmps30
  go_upto_region 0 with (fail)
  apply wp_region_lit
  refine Lw.wpList_val rfl (.int .u32 (b : Nat)) w (by go_simp) ?_
  refine Lw.wpList_val rfl (.int .u32 (M : Nat)) w (by simp only [← HB0.out]; go_simp) ?_
  refine Lw.wpList_val rfl (.int .u32 (M : Nat)) w (by go_simp) ?_
  simp only [Act.put, List.setIfInBounds_toArray, List.set_cons_zero, List.set_cons_succ]
  go_upto_region 1 with (fail)
  refine wp_region_any (by kernel_rfl) ?_
  change wpAny _ _ _ _ _ _ _ w.drew
  have HM := Lib.hid (HM.out.drewN 1)
  change Hid (Pair p q w w.drew _ _) at HM
  generalize w.drew = w1 at HM ⊢
  refine Lw.take_to (i := 0) (some 9) (.int .u32 (M : Nat)) rfl rfl (by kernel_rfl) (by kernel_rfl) (by kernel_rfl) (fun _ _ _ h => h) (Or.inl ⟨by rfl, fun w => by go_simp⟩) ?_
  refine Lw.take_to (i := 1) (some 10) (.pointer (some ⟨p, 0, none⟩)) rfl rfl (by kernel_rfl) (by kernel_rfl) (by kernel_rfl) (fun _ _ _ h => h) (Or.inl ⟨by rfl, fun w => by go_simp⟩) ?_
  refine Lw.take_to (i := 2) (some 11) (.pointer (some ⟨p, 0, none⟩)) rfl rfl (by kernel_rfl) (by kernel_rfl) (by kernel_rfl) (fun _ _ _ h => h) (Or.inl ⟨by rfl, fun w => by go_simp⟩) ?_
  refine Lw.take_to (i := 3) (some 12) (.pointer (some ⟨p, 0, none⟩)) rfl rfl (by kernel_rfl) (by kernel_rfl) (by kernel_rfl) (fun _ _ _ h => h) (Or.inl ⟨by rfl, fun w => by go_simp⟩) ?_
  refine Lw.take_to (i := 4) (some 13) (.pointer (some ⟨q, 0, none⟩)) rfl rfl (by kernel_rfl) (by kernel_rfl) (by kernel_rfl) (fun _ _ _ h => h) (Or.inl ⟨by rfl, fun w => by go_simp⟩) ?_
  refine Lw.take_to (i := 5) (some 14) (.pointer (some ⟨q, 0, none⟩)) rfl rfl (by kernel_rfl) (by kernel_rfl) (by kernel_rfl) (fun _ _ _ h => h) (Or.inl ⟨by rfl, fun w => by go_simp⟩) ?_
  refine Lw.take_to (i := 6) (some 15) (.pointer (some ⟨q, 0, none⟩)) rfl rfl (by kernel_rfl) (by kernel_rfl) (by kernel_rfl) (fun _ _ _ h => h) (Or.inl ⟨by rfl, fun w => by go_simp⟩) ?_
  simp only [Act.put, List.setIfInBounds_toArray, List.set_cons_zero, List.set_cons_succ]
  refine wpAny_ready (rs := [7]) (by kernel_rfl) (by simp) ?_
  refine ready_callTo (some 16) rfl rfl rfl 42 _ _ rfl (fun _ _ => by go_simp) #[.int .u32 (M : Nat), .pointer (some ⟨p, 0, none⟩), .pointer (some ⟨q, 0, none⟩)] (by kernel_rfl) ?_ AllReady.nil
  refine (K0.out _ HM.out.one HM.out.two).mono ?_
  rintro x u0 ⟨rfl, hp⟩
  refine ⟨_, rfl, ?_⟩
  have HM := Lib.hid (HM.out.from hp)
  clear hp
  simp only [Act.put, List.setIfInBounds_toArray, List.set_cons_zero, List.set_cons_succ]
  refine wpAny_done (by kernel_rfl) ?_ _
  go_upto_region 2 with (fail)
  refine wp_region_any (by kernel_rfl) ?_
  change wpAny _ _ _ _ _ _ _ u0.drew
  have HM := Lib.hid (HM.out.drewN 1)
  change Hid (Pair p q w u0.drew _ _) at HM
  generalize u0.drew = w2 at HM ⊢
  refine Lw.take_to (i := 0) (some 17) (.int .u32 (M : Nat)) rfl rfl (by kernel_rfl) (by kernel_rfl) (by kernel_rfl) (fun _ _ _ h => h) (Or.inl ⟨by rfl, fun w => by go_simp⟩) ?_
  refine Lw.take_to (i := 1) (some 18) (.pointer (some ⟨p, 0, none⟩)) rfl rfl (by kernel_rfl) (by kernel_rfl) (by kernel_rfl) (fun _ _ _ h => h) (Or.inl ⟨by rfl, fun w => by go_simp⟩) ?_
  refine Lw.take_to (i := 2) (some 19) (.pointer (some ⟨p, 0, none⟩)) rfl rfl (by kernel_rfl) (by kernel_rfl) (by kernel_rfl) (fun _ _ _ h => h) (Or.inl ⟨by rfl, fun w => by go_simp⟩) ?_
  refine Lw.take_to (i := 3) (some 20) (.pointer (some ⟨p, 8, none⟩)) rfl rfl (by kernel_rfl) (by kernel_rfl) (by kernel_rfl) (fun _ _ _ h => h) (Or.inl ⟨by rfl, fun w => by go_simp⟩) ?_
  refine Lw.take_to (i := 4) (some 21) (.pointer (some ⟨q, 0, none⟩)) rfl rfl (by kernel_rfl) (by kernel_rfl) (by kernel_rfl) (fun _ _ _ h => h) (Or.inl ⟨by rfl, fun w => by go_simp⟩) ?_
  refine Lw.take_to (i := 5) (some 22) (.pointer (some ⟨q, 0, none⟩)) rfl rfl (by kernel_rfl) (by kernel_rfl) (by kernel_rfl) (fun _ _ _ h => h) (Or.inl ⟨by rfl, fun w => by go_simp⟩) ?_
  refine Lw.take_to (i := 6) (some 23) (.pointer (some ⟨q, 8, none⟩)) rfl rfl (by kernel_rfl) (by kernel_rfl) (by kernel_rfl) (fun _ _ _ h => h) (Or.inl ⟨by rfl, fun w => by go_simp⟩) ?_
  simp only [Act.put, List.setIfInBounds_toArray, List.set_cons_zero, List.set_cons_succ]
  refine wpAny_ready (rs := [7]) (by kernel_rfl) (by simp) ?_
  refine ready_callTo (some 24) rfl rfl rfl 42 _ _ rfl (fun _ _ => by go_simp) #[.int .u32 (M : Nat), .pointer (some ⟨p, 8, none⟩), .pointer (some ⟨q, 8, none⟩)] (by kernel_rfl) ?_ AllReady.nil
  refine (K8.out _ HM.out.one HM.out.two).mono ?_
  rintro x u8 ⟨rfl, hp⟩
  refine ⟨_, rfl, ?_⟩
  have HM := Lib.hid (HM.out.from hp)
  clear hp
  simp only [Act.put, List.setIfInBounds_toArray, List.set_cons_zero, List.set_cons_succ]
  refine wpAny_done (by kernel_rfl) ?_ _
  go_wp2_with (fail)
  go_end0
  exact ⟨rfl, HM.out⟩
theorem swap_words (b p q : Nat) (d e : Nat → Nat) (w : World) (hb : b < 2) (hd : ∀ i, d i < 4294967296) (he : ∀ i, e i < 4294967296) (hpq : ¬ p = q) (H : Pair p q w w d e) :
    Calls Try.prog 30 #[.int .u32 (b : Nat), .pointer (some ⟨p, 0, none⟩), .pointer (some ⟨q, 0, none⟩)] w fun x u => x = .returned (.tuple #[]) ∧ Pair p q w u (sw b d e) (sw b e d) := by
  rcases (show b = 0 ∨ b = 1 by omega) with rfl | rfl
  · refine (swap_raw 0 0 p q d e w (by decide) (by decide) hd he hpq H).mono ?_
    rintro x u ⟨rfl, h⟩
    exact ⟨rfl, h.congr (fun i _ => by rw [s1_none, s1_none]; rfl) fun i _ => by rw [s2_none, s2_none]; rfl⟩
  · refine (swap_raw 1 4294967295 p q d e w (by decide) (by decide) hd he hpq H).mono ?_
    rintro x u ⟨rfl, h⟩
    have l1 := s1_lt (M := 4294967295) (o := 0) hd he
    have l2 := s2_lt (M := 4294967295) (o := 0) hd he
    refine ⟨rfl, h.congr (fun i hi => ?_) fun i hi => ?_⟩
    · rw [s1_full l1 l2, s1_full hd he, s2_full hd he]
      show _ = e i
      by_cases h8 : i < 8
      · rw [if_neg (by omega), if_pos (by omega)]
      · rw [if_pos (by omega), if_neg (by omega)]
    · rw [s2_full l1 l2, s1_full hd he, s2_full hd he]
      show _ = d i
      by_cases h8 : i < 8
      · rw [if_neg (by omega), if_pos (by omega)]
      · rw [if_pos (by omega), if_neg (by omega)]
/-- Two points, and no other block, that are turned. -/
theorem swap_any (b p q A C D E : Nat) (w : World) (hb : b < 2) (hpq : ¬ p = q) (h1 : Cell w p (62, fdA A C)) (h2 : Cell w q (62, fdA D E)) :
    Calls Try.prog 30 #[.int .u32 (b : Nat), .pointer (some ⟨p, 0, none⟩), .pointer (some ⟨q, 0, none⟩)] w fun x u => x = .returned (.tuple #[]) ∧ (u.os = w.os ∧ u.tape = w.tape ∧ u.output = w.output ∧ w.heap.size ≤ u.heap.size ∧ ∀ k, k < w.heap.size → k ≠ p → k ≠ q → u.heap[k]? = w.heap[k]?) ∧
      Cell u p (62, if b = 1 then fdA D E else fdA A C) ∧ Cell u q (62, if b = 1 then fdA A C else fdA D E) := by
  refine (swap_words b p q (dd A C) (dd D E) w hb (dd_lt A C) (dd_lt D E) hpq (Pair.self (cell_row h1) (cell_row h2))).mono ?_
  rintro x u ⟨rfl, h⟩
  refine ⟨rfl, ⟨h.os, h.tape, h.output, h.size, h.block⟩, ?_, ?_⟩
  · have r := h.one
    unfold sw at r
    by_cases e : b = 1
    · simp only [if_pos e] at r ⊢
      exact row_cell r
    · simp only [if_neg e] at r ⊢
      exact row_cell r
  · have r := h.two
    unfold sw at r
    by_cases e : b = 1
    · simp only [if_pos e] at r ⊢
      exact row_cell r
    · simp only [if_neg e] at r ⊢
      exact row_cell r
end Go.Proofs.Xe
