/-
  The developers' X25519: one step of the ladder.
-/
import Derived.Test.YtpniinolkflfjaaJobi
namespace Go.Proofs.Xe
open Go.RowKit
open Go.Proofs.Im (wpList_box_to words_heap words_one run_index_row)
open Go.Proofs.Sha (wordCells wordCells_get wordCells_size rowIs_of wpList_alloc_to wpList_build_to)
open Go.Proofs.Nt
open Go.Proofs.Nu (nmL nmA nmV nmA_one nmA_size)
open Go.Proofs.Nd (fdA fdV fdA_size fdA_one alloc_n alloc_f)
open Go.Proofs.Eo
open Go.Proofs.En (meetH)
open Go.Proofs.He (takeH load_row callH allocH storeH)
set_option maxHeartbeats 40000000 in
set_option maxRecDepth 20000 in
theorem step_raw (p o U A2 C2 A3 C3 sa sb aa bb dd ea da eb cb st mt x2 fa fb z2 ss mm z3 : Nat) (w : World)
    (hsa : ∀ u : World, Calls Try.prog 43 #[fdV p o, nmV A2, nmV C2] u fun e u' => e = .returned (nmV sa) ∧ Below u.heap.size u u')
    (hsb : ∀ u : World, Calls Try.prog 44 #[fdV p o, nmV A2, nmV C2] u fun e u' => e = .returned (nmV sb) ∧ Below u.heap.size u u')
    (haa : ∀ u : World, Calls Try.prog 45 #[fdV p o, nmV sa, nmV sa] u fun e u' => e = .returned (nmV aa) ∧ Below u.heap.size u u')
    (hbb : ∀ u : World, Calls Try.prog 45 #[fdV p o, nmV sb, nmV sb] u fun e u' => e = .returned (nmV bb) ∧ Below u.heap.size u u')
    (hdd : ∀ u : World, Calls Try.prog 44 #[fdV p o, nmV aa, nmV bb] u fun e u' => e = .returned (nmV dd) ∧ Below u.heap.size u u')
    (hea : ∀ u : World, Calls Try.prog 44 #[fdV p o, nmV A3, nmV C3] u fun e u' => e = .returned (nmV ea) ∧ Below u.heap.size u u')
    (hda : ∀ u : World, Calls Try.prog 45 #[fdV p o, nmV ea, nmV sa] u fun e u' => e = .returned (nmV da) ∧ Below u.heap.size u u')
    (heb : ∀ u : World, Calls Try.prog 43 #[fdV p o, nmV A3, nmV C3] u fun e u' => e = .returned (nmV eb) ∧ Below u.heap.size u u')
    (hcb : ∀ u : World, Calls Try.prog 45 #[fdV p o, nmV eb, nmV sb] u fun e u' => e = .returned (nmV cb) ∧ Below u.heap.size u u')
    (hst : ∀ u : World, Calls Try.prog 43 #[fdV p o, nmV da, nmV cb] u fun e u' => e = .returned (nmV st) ∧ Below u.heap.size u u')
    (hmt : ∀ u : World, Calls Try.prog 44 #[fdV p o, nmV da, nmV cb] u fun e u' => e = .returned (nmV mt) ∧ Below u.heap.size u u')
    (hx2 : ∀ u : World, Calls Try.prog 45 #[fdV p o, nmV aa, nmV bb] u fun e u' => e = .returned (nmV x2) ∧ Below u.heap.size u u')
    (hfa : ∀ u : World, Calls Try.prog 45 #[fdV p o, nmV 121665, nmV dd] u fun e u' => e = .returned (nmV fa) ∧ Below u.heap.size u u')
    (hfb : ∀ u : World, Calls Try.prog 43 #[fdV p o, nmV aa, nmV fa] u fun e u' => e = .returned (nmV fb) ∧ Below u.heap.size u u')
    (hz2 : ∀ u : World, Calls Try.prog 45 #[fdV p o, nmV dd, nmV fb] u fun e u' => e = .returned (nmV z2) ∧ Below u.heap.size u u')
    (hss : ∀ u : World, Calls Try.prog 45 #[fdV p o, nmV st, nmV st] u fun e u' => e = .returned (nmV ss) ∧ Below u.heap.size u u')
    (hmm : ∀ u : World, Calls Try.prog 45 #[fdV p o, nmV mt, nmV mt] u fun e u' => e = .returned (nmV mm) ∧ Below u.heap.size u u')
    (hz3 : ∀ u : World, Calls Try.prog 45 #[fdV p o, nmV U, nmV mm] u fun e u' => e = .returned (nmV z3) ∧ Below u.heap.size u u') :
    Calls Try.prog 31 #[ldV p o U, ptV A2 C2, ptV A3 C3] w fun e u => e = .returned (.tuple #[ptV x2 z2, ptV ss z3]) ∧ Below w.heap.size w u := by
  have Ksa := Lib.hid hsa
  have Ksb := Lib.hid hsb
  have Kaa := Lib.hid haa
  have Kbb := Lib.hid hbb
  have Kdd := Lib.hid hdd
  have Kea := Lib.hid hea
  have Kda := Lib.hid hda
  have Keb := Lib.hid heb
  have Kcb := Lib.hid hcb
  have Kst := Lib.hid hst
  have Kmt := Lib.hid hmt
  have Kx2 := Lib.hid hx2
  have Kfa := Lib.hid hfa
  have Kfb := Lib.hid hfb
  have Kz2 := Lib.hid hz2
  have Kss := Lib.hid hss
  have Kmm := Lib.hid hmm
  have Kz3 := Lib.hid hz3
  clear hsa hsb haa hbb hdd hea hda heb hcb hst hmt hx2 hfa hfb hz2 hss hmm hz3
  go_enter Try.func31, Try.ntmps31
  go_upto_region 0 with (fail)
  apply wp_region_lit
  refine wpList_box_to rfl 42 _ rfl (ldA p o U) (by kernel_rfl) w.heap.size rfl ?_
  refine wpList_box_to rfl 62 _ rfl (fdA A2 C2) (by kernel_rfl) (w.heap.size + 1) (by simp) ?_
  refine wpList_box_to rfl 62 _ rfl (fdA A3 C3) (by kernel_rfl) (w.heap.size + 2) (by simp) ?_
  refine wpList_alloc_to rfl 62 rfl (fdA 0 0) (w.heap.size + 3) (by simp) alloc_p ?_
  refine wpList_alloc_to rfl 62 rfl (fdA 0 0) (w.heap.size + 4) (by simp) alloc_p ?_
  simp only [Act.put, List.setIfInBounds_toArray, List.set_cons_zero, List.set_cons_succ]
  have HM : Hid (Env w (((((w.alloc (.cells (ldA p o U) 42)).alloc (.cells (fdA A2 C2) 62)).alloc (.cells (fdA A3 C3) 62)).alloc (.cells (fdA 0 0) 62)).alloc (.cells (fdA 0 0) 62)) (w.heap.size + 5) [((w.heap.size + 4), (62, fdA 0 0)), ((w.heap.size + 3), (62, fdA 0 0)), ((w.heap.size + 2), (62, fdA A3 C3)), ((w.heap.size + 1), (62, fdA A2 C2)), (w.heap.size, (42, ldA p o U))]) := ((((((Env.start w).new rfl 42 (ldA p o U)).new (by simp) 62 (fdA A2 C2)).new (by simp) 62 (fdA A3 C3)).new (by simp) 62 (fdA 0 0)).new (by simp) 62 (fdA 0 0))
  generalize (((((w.alloc (.cells (ldA p o U) 42)).alloc (.cells (fdA A2 C2) 62)).alloc (.cells (fdA A3 C3) 62)).alloc (.cells (fdA 0 0) 62)).alloc (.cells (fdA 0 0) 62)) = w1 at HM ⊢
  generalize ldV p o U = Lv
  generalize ptV A2 C2 = Pv
  generalize ptV A3 C3 = Qv
  go_upto_region 1 with (fail)
  apply wp_region_lit
  refine Lw.wpList_val rfl (.pointer (some ⟨w.heap.size, 0, none⟩)) w1 (by go_simp) ?_
  simp only [Act.put, List.setIfInBounds_toArray, List.set_cons_zero, List.set_cons_succ]
  refine wpList_load_mid rfl 40 _ rfl w.heap.size 0 (by kernel_rfl) (fdA p o).toList _ (ld_f (HM.out.get 4 rfl)) Try.underlying40 rfl (by kernel_rfl) ?_
  simp only [Act.put, List.setIfInBounds_toArray, List.set_cons_zero, List.set_cons_succ]
  refine wpList_alloc_to rfl 40 rfl (fdA 0 0) w1.heap.size rfl alloc_f ?_
  simp only [Act.put, List.setIfInBounds_toArray, List.set_cons_zero, List.set_cons_succ]
  refine wpList_store_row rfl 40 _ _ rfl w1.heap.size (fdA p o) (by kernel_rfl) (by kernel_rfl) 40 _ (heap_alloc_last _ _) (by kernel_rfl) (by first | rw [nmA_size, nmA_size] | rfl) (fdA_one _ _) ?_
  rw [World.setRow_alloc_new]
  simp only [Act.put]
  have HM := Lib.hid ((HM.out.alloc (.cells (fdA p o) 40)).cons (HM.out.size) (Cell.new 40 w1 (fdA p o)))
  generalize w1.alloc (.cells (fdA p o) 40) = w2 at HM ⊢
  generalize w1.heap.size = q8 at HM ⊢
  generalize q8 + 1 = n1 at HM
  go_upto_region 2 with (fail)
  have hSd := HM.out.drew
  clear HM
  refine wp_region_held (S := fun u => Env w u n1 [(q8, (40, fdA p o)), ((w.heap.size + 4), (62, fdA 0 0)), ((w.heap.size + 3), (62, fdA 0 0)), ((w.heap.size + 2), (62, fdA A3 C3)), ((w.heap.size + 1), (62, fdA A2 C2)), (w.heap.size, (42, ldA p o U))]) (by kernel_rfl) ?_
  change wpAnyH _ _ _ _ _ _ _ _ w2.drew
  have HSx := Lib.hid hSd
  clear hSd
  generalize w2.drew = wd at HSx ⊢
  refine takeH (i := 0) (some 21) (.agg (fdA p o)) rfl rfl rfl (by kernel_rfl) (by kernel_rfl) (by kernel_rfl) (fun _ _ _ h => h) (load_row 40 _ rfl q8 (by kernel_rfl) 40 (fdA p o) (0, 0) _ Try.underlying40 rfl (by kernel_rfl) (fun w h => h.get 0 rfl)) HSx.out ?_
  simp only [Act.put, List.setIfInBounds_toArray, List.set_cons_zero, List.set_cons_succ]
  refine takeH (i := 1) (some 22) (.pointer (some ⟨(w.heap.size + 1), 0, none⟩)) rfl rfl rfl (by kernel_rfl) (by kernel_rfl) (by kernel_rfl) (fun _ _ _ h => h) (fun w _ => by go_simp) HSx.out ?_
  simp only [Act.put, List.setIfInBounds_toArray, List.set_cons_zero, List.set_cons_succ]
  refine takeH (i := 2) (some 23) (.agg (nmA (lb A2))) rfl rfl rfl (by kernel_rfl) (by kernel_rfl) (by kernel_rfl) (fun _ _ _ h => h) (load_mid 38 _ rfl (w.heap.size + 1) 0 (by kernel_rfl) (nmA (lb A2)) _ Try.underlying38 rfl (by kernel_rfl) (fun w h => pt_x (h.get 4 rfl))) HSx.out ?_
  simp only [Act.put, List.setIfInBounds_toArray, List.set_cons_zero, List.set_cons_succ]
  refine takeH (i := 3) (some 24) (.pointer (some ⟨(w.heap.size + 1), 8, none⟩)) rfl rfl rfl (by kernel_rfl) (by kernel_rfl) (by kernel_rfl) (fun _ _ _ h => h) (fun w _ => by go_simp) HSx.out ?_
  simp only [Act.put, List.setIfInBounds_toArray, List.set_cons_zero, List.set_cons_succ]
  refine takeH (i := 4) (some 25) (.agg (nmA (lb C2))) rfl rfl rfl (by kernel_rfl) (by kernel_rfl) (by kernel_rfl) (fun _ _ _ h => h) (load_mid 38 _ rfl (w.heap.size + 1) 8 (by kernel_rfl) (nmA (lb C2)) _ Try.underlying38 rfl (by kernel_rfl) (fun w h => pt_z (h.get 4 rfl))) HSx.out ?_
  simp only [Act.put, List.setIfInBounds_toArray, List.set_cons_zero, List.set_cons_succ]
  refine takeH (i := 6) (some 27) (.agg (fdA p o)) rfl rfl rfl (by kernel_rfl) (by kernel_rfl) (by kernel_rfl) (fun _ _ _ h => h) (load_row 40 _ rfl q8 (by kernel_rfl) 40 (fdA p o) (0, 0) _ Try.underlying40 rfl (by kernel_rfl) (fun w h => h.get 0 rfl)) HSx.out ?_
  simp only [Act.put, List.setIfInBounds_toArray, List.set_cons_zero, List.set_cons_succ]
  refine takeH (i := 7) (some 28) (.pointer (some ⟨(w.heap.size + 1), 0, none⟩)) rfl rfl rfl (by kernel_rfl) (by kernel_rfl) (by kernel_rfl) (fun _ _ _ h => h) (fun w _ => by go_simp) HSx.out ?_
  simp only [Act.put, List.setIfInBounds_toArray, List.set_cons_zero, List.set_cons_succ]
  refine takeH (i := 8) (some 29) (.agg (nmA (lb A2))) rfl rfl rfl (by kernel_rfl) (by kernel_rfl) (by kernel_rfl) (fun _ _ _ h => h) (load_mid 38 _ rfl (w.heap.size + 1) 0 (by kernel_rfl) (nmA (lb A2)) _ Try.underlying38 rfl (by kernel_rfl) (fun w h => pt_x (h.get 4 rfl))) HSx.out ?_
  simp only [Act.put, List.setIfInBounds_toArray, List.set_cons_zero, List.set_cons_succ]
  refine takeH (i := 9) (some 30) (.pointer (some ⟨(w.heap.size + 1), 8, none⟩)) rfl rfl rfl (by kernel_rfl) (by kernel_rfl) (by kernel_rfl) (fun _ _ _ h => h) (fun w _ => by go_simp) HSx.out ?_
  simp only [Act.put, List.setIfInBounds_toArray, List.set_cons_zero, List.set_cons_succ]
  refine takeH (i := 10) (some 31) (.agg (nmA (lb C2))) rfl rfl rfl (by kernel_rfl) (by kernel_rfl) (by kernel_rfl) (fun _ _ _ h => h) (load_mid 38 _ rfl (w.heap.size + 1) 8 (by kernel_rfl) (nmA (lb C2)) _ Try.underlying38 rfl (by kernel_rfl) (fun w h => pt_z (h.get 4 rfl))) HSx.out ?_
  simp only [Act.put, List.setIfInBounds_toArray, List.set_cons_zero, List.set_cons_succ]
  refine meetH (fun (x : Nat × Nat) a => ((((a.put (some 26) (nmV sa)).put (some 32) (nmV sb)).put (some 9) (.pointer (some ⟨x.1, 0, none⟩))).put (some 10) (.pointer (some ⟨x.2, 0, none⟩)))) #[true, true, true, true, true, true, true, true, true, true, true, true, true, true, false, false] 2 (fun (x : Nat × Nat) W => (Env w W n1 [(q8, (40, fdA p o)), ((w.heap.size + 4), (62, fdA 0 0)), ((w.heap.size + 3), (62, fdA 0 0)), ((w.heap.size + 2), (62, fdA A3 C3)), ((w.heap.size + 1), (62, fdA A2 C2)), (w.heap.size, (42, ldA p o U))]) ∧ (n1 ≤ x.1 ∧ Cell W x.1 (38, nmA (lb 0))) ∧ (n1 ≤ x.2 ∧ Cell W x.2 (38, nmA (lb 0))) ∧ (¬ x.1 = x.2)) ?_ (fun key2_010 => ?_)
  · rintro ⟨q9, q10⟩ W ⟨hS, ⟨hn0, hc0⟩, ⟨hn1, hc1⟩, hd01⟩
    simp only [Act.put, List.setIfInBounds_toArray, List.set_cons_zero, List.set_cons_succ]
    have HE := Lib.hid hS
    have C0 := Lib.hid hc0
    have C1 := Lib.hid hc1
    refine wpAnyH_ready (rs := [14]) (by kernel_rfl) (by simp) ?_
    refine storeH rfl rfl rfl 38 _ _ rfl q9 (nmA (lb sa)) (by kernel_rfl) (by kernel_rfl) 38 _ C0.out (by kernel_rfl) (by first | rw [nmA_size, nmA_size] | rfl) (nmA_one _) (HE.out.far _ hn0) ?_ AllReadyH.nil
    have HE := Lib.hid (HE.out.far (nmA (lb sa)) hn0)
    have C0 := Lib.hid (C0.out.put (nmA (lb sa)))
    have C1 := Lib.hid (C1.out.far (nmA (lb sa)) (fun e => hd01 e.symm))
    generalize W.setRow q9 (nmA (lb sa)) = ws0 at HE C0 C1 ⊢
    simp only [Act.put, List.setIfInBounds_toArray, List.set_cons_zero, List.set_cons_succ]
    refine wpAnyH_ready (rs := [15]) (by kernel_rfl) (by simp) ?_
    refine storeH rfl rfl rfl 38 _ _ rfl q10 (nmA (lb sb)) (by kernel_rfl) (by kernel_rfl) 38 _ C1.out (by kernel_rfl) (by first | rw [nmA_size, nmA_size] | rfl) (nmA_one _) (HE.out.far _ hn1) ?_ AllReadyH.nil
    have HE := Lib.hid (HE.out.far (nmA (lb sb)) hn1)
    have C0 := Lib.hid (C0.out.far (nmA (lb sb)) hd01)
    have C1 := Lib.hid (C1.out.put (nmA (lb sb)))
    generalize ws0.setRow q10 (nmA (lb sb)) = ws1 at HE C0 C1 ⊢
    simp only [Act.put, List.setIfInBounds_toArray, List.set_cons_zero, List.set_cons_succ]
    refine wpAnyH_done (by kernel_rfl) ?_ _
    have HM := Lib.hid ((((HE.out).add (Nat.le_trans HE.out.base hn1) (HE.out.old hn1) C1.out)).add (Nat.le_trans HE.out.base hn0) (new_cons (HE.out.old hn0) hd01) C0.out)
    clear HE C0 hn0 hc0 C1 hn1 hc1 hd01
    generalize ws1.heap.size = n2 at HM
    generalize ws1 = wz at HM ⊢
    go_upto_region 3 with (fail)
    have hSd := HM.out.drew
    clear HM
    refine wp_region_held (S := fun u => Env w u n2 [(q9, (38, nmA (lb sa))), (q10, (38, nmA (lb sb))), (q8, (40, fdA p o)), ((w.heap.size + 4), (62, fdA 0 0)), ((w.heap.size + 3), (62, fdA 0 0)), ((w.heap.size + 2), (62, fdA A3 C3)), ((w.heap.size + 1), (62, fdA A2 C2)), (w.heap.size, (42, ldA p o U))]) (by kernel_rfl) ?_
    change wpAnyH _ _ _ _ _ _ _ _ wz.drew
    have HSx := Lib.hid hSd
    clear hSd
    generalize wz.drew = wd at HSx ⊢
    refine takeH (i := 0) (some 33) (.agg (fdA p o)) rfl rfl rfl (by kernel_rfl) (by kernel_rfl) (by kernel_rfl) (fun _ _ _ h => h) (load_row 40 _ rfl q8 (by kernel_rfl) 40 (fdA p o) (0, 0) _ Try.underlying40 rfl (by kernel_rfl) (fun w h => h.get 2 rfl)) HSx.out ?_
    simp only [Act.put, List.setIfInBounds_toArray, List.set_cons_zero, List.set_cons_succ]
    refine takeH (i := 1) (some 34) (.agg (nmA (lb sa))) rfl rfl rfl (by kernel_rfl) (by kernel_rfl) (by kernel_rfl) (fun _ _ _ h => h) (load_row 38 _ rfl q9 (by kernel_rfl) 38 (nmA (lb sa)) (0, 0) _ Try.underlying38 rfl (by kernel_rfl) (fun w h => h.get 0 rfl)) HSx.out ?_
    simp only [Act.put, List.setIfInBounds_toArray, List.set_cons_zero, List.set_cons_succ]
    refine takeH (i := 2) (some 35) (.agg (nmA (lb sa))) rfl rfl rfl (by kernel_rfl) (by kernel_rfl) (by kernel_rfl) (fun _ _ _ h => h) (load_row 38 _ rfl q9 (by kernel_rfl) 38 (nmA (lb sa)) (0, 0) _ Try.underlying38 rfl (by kernel_rfl) (fun w h => h.get 0 rfl)) HSx.out ?_
    simp only [Act.put, List.setIfInBounds_toArray, List.set_cons_zero, List.set_cons_succ]
    refine takeH (i := 4) (some 37) (.agg (fdA p o)) rfl rfl rfl (by kernel_rfl) (by kernel_rfl) (by kernel_rfl) (fun _ _ _ h => h) (load_row 40 _ rfl q8 (by kernel_rfl) 40 (fdA p o) (0, 0) _ Try.underlying40 rfl (by kernel_rfl) (fun w h => h.get 2 rfl)) HSx.out ?_
    simp only [Act.put, List.setIfInBounds_toArray, List.set_cons_zero, List.set_cons_succ]
    refine takeH (i := 5) (some 38) (.agg (nmA (lb sb))) rfl rfl rfl (by kernel_rfl) (by kernel_rfl) (by kernel_rfl) (fun _ _ _ h => h) (load_row 38 _ rfl q10 (by kernel_rfl) 38 (nmA (lb sb)) (0, 0) _ Try.underlying38 rfl (by kernel_rfl) (fun w h => h.get 1 rfl)) HSx.out ?_
    simp only [Act.put, List.setIfInBounds_toArray, List.set_cons_zero, List.set_cons_succ]
    refine takeH (i := 6) (some 39) (.agg (nmA (lb sb))) rfl rfl rfl (by kernel_rfl) (by kernel_rfl) (by kernel_rfl) (fun _ _ _ h => h) (load_row 38 _ rfl q10 (by kernel_rfl) 38 (nmA (lb sb)) (0, 0) _ Try.underlying38 rfl (by kernel_rfl) (fun w h => h.get 1 rfl)) HSx.out ?_
    simp only [Act.put, List.setIfInBounds_toArray, List.set_cons_zero, List.set_cons_succ]
    refine meetH (fun (x : Nat × Nat) a => ((((a.put (some 36) (nmV aa)).put (some 40) (nmV bb)).put (some 11) (.pointer (some ⟨x.1, 0, none⟩))).put (some 12) (.pointer (some ⟨x.2, 0, none⟩)))) #[true, true, true, true, true, true, true, true, true, true, false, false] 2 (fun (x : Nat × Nat) W => (Env w W n2 [(q9, (38, nmA (lb sa))), (q10, (38, nmA (lb sb))), (q8, (40, fdA p o)), ((w.heap.size + 4), (62, fdA 0 0)), ((w.heap.size + 3), (62, fdA 0 0)), ((w.heap.size + 2), (62, fdA A3 C3)), ((w.heap.size + 1), (62, fdA A2 C2)), (w.heap.size, (42, ldA p o U))]) ∧ (n2 ≤ x.1 ∧ Cell W x.1 (38, nmA (lb 0))) ∧ (n2 ≤ x.2 ∧ Cell W x.2 (38, nmA (lb 0))) ∧ (¬ x.1 = x.2)) ?_ (fun key2_010 => ?_)
    · rintro ⟨q11, q12⟩ W ⟨hS, ⟨hn0, hc0⟩, ⟨hn1, hc1⟩, hd01⟩
      simp only [Act.put, List.setIfInBounds_toArray, List.set_cons_zero, List.set_cons_succ]
      have HE := Lib.hid hS
      have C0 := Lib.hid hc0
      have C1 := Lib.hid hc1
      refine wpAnyH_ready (rs := [10]) (by kernel_rfl) (by simp) ?_
      refine storeH rfl rfl rfl 38 _ _ rfl q11 (nmA (lb aa)) (by kernel_rfl) (by kernel_rfl) 38 _ C0.out (by kernel_rfl) (by first | rw [nmA_size, nmA_size] | rfl) (nmA_one _) (HE.out.far _ hn0) ?_ AllReadyH.nil
      have HE := Lib.hid (HE.out.far (nmA (lb aa)) hn0)
      have C0 := Lib.hid (C0.out.put (nmA (lb aa)))
      have C1 := Lib.hid (C1.out.far (nmA (lb aa)) (fun e => hd01 e.symm))
      generalize W.setRow q11 (nmA (lb aa)) = ws0 at HE C0 C1 ⊢
      simp only [Act.put, List.setIfInBounds_toArray, List.set_cons_zero, List.set_cons_succ]
      refine wpAnyH_ready (rs := [11]) (by kernel_rfl) (by simp) ?_
      refine storeH rfl rfl rfl 38 _ _ rfl q12 (nmA (lb bb)) (by kernel_rfl) (by kernel_rfl) 38 _ C1.out (by kernel_rfl) (by first | rw [nmA_size, nmA_size] | rfl) (nmA_one _) (HE.out.far _ hn1) ?_ AllReadyH.nil
      have HE := Lib.hid (HE.out.far (nmA (lb bb)) hn1)
      have C0 := Lib.hid (C0.out.far (nmA (lb bb)) hd01)
      have C1 := Lib.hid (C1.out.put (nmA (lb bb)))
      generalize ws0.setRow q12 (nmA (lb bb)) = ws1 at HE C0 C1 ⊢
      simp only [Act.put, List.setIfInBounds_toArray, List.set_cons_zero, List.set_cons_succ]
      refine wpAnyH_done (by kernel_rfl) ?_ _
      have HM := Lib.hid ((((HE.out).add (Nat.le_trans HE.out.base hn1) (HE.out.old hn1) C1.out)).add (Nat.le_trans HE.out.base hn0) (new_cons (HE.out.old hn0) hd01) C0.out)
      clear HE C0 hn0 hc0 C1 hn1 hc1 hd01
      generalize ws1.heap.size = n3 at HM
      generalize ws1 = wz at HM ⊢
      go_upto_region 4 with (fail)
      apply wp_region_lit
      refine wpList_load_row rfl 40 _ rfl q8 (by kernel_rfl) 40 (fdA p o) (0, 0) _ (HM.out.get 4 rfl) Try.underlying40 rfl (by kernel_rfl) ?_
      simp only [Act.put, List.setIfInBounds_toArray, List.set_cons_zero, List.set_cons_succ]
      refine wpList_load_row rfl 38 _ rfl q11 (by kernel_rfl) 38 (nmA (lb aa)) (0, 0) _ (HM.out.get 0 rfl) Try.underlying38 rfl (by kernel_rfl) ?_
      simp only [Act.put, List.setIfInBounds_toArray, List.set_cons_zero, List.set_cons_succ]
      refine wpList_load_row rfl 38 _ rfl q12 (by kernel_rfl) 38 (nmA (lb bb)) (0, 0) _ (HM.out.get 1 rfl) Try.underlying38 rfl (by kernel_rfl) ?_
      simp only [Act.put, List.setIfInBounds_toArray, List.set_cons_zero, List.set_cons_succ]
      refine Lw.wpList_callTo (some 44) rfl rfl 44 _ _ rfl (fun _ _ => by go_simp) #[fdV p o, nmV aa, nmV bb] (by kernel_rfl) ?_
      refine (Kdd.out wz).mono ?_
      rintro e ul ⟨rfl, hb⟩
      refine ⟨_, rfl, ?_⟩
      have HM := Lib.hid (HM.out.on hb)
      clear hb
      simp only [Act.put, List.setIfInBounds_toArray, List.set_cons_zero, List.set_cons_succ]
      refine wpList_alloc_to rfl 38 rfl (nmA (lb 0)) ul.heap.size rfl alloc_n ?_
      simp only [Act.put, List.setIfInBounds_toArray, List.set_cons_zero, List.set_cons_succ]
      refine wpList_store_row rfl 38 _ _ rfl ul.heap.size (nmA (lb dd)) (by kernel_rfl) (by kernel_rfl) 38 _ (heap_alloc_last _ _) (by kernel_rfl) (by first | rw [nmA_size, nmA_size] | rfl) (nmA_one _) ?_
      rw [World.setRow_alloc_new]
      simp only [Act.put]
      have HM := Lib.hid ((HM.out.alloc (.cells (nmA (lb dd)) 38)).cons (HM.out.size) (Cell.new 38 ul (nmA (lb dd))))
      generalize ul.alloc (.cells (nmA (lb dd)) 38) = wl at HM ⊢
      generalize ul.heap.size = q13 at HM ⊢
      generalize q13 + 1 = n4 at HM
      go_upto_region 5 with (fail)
      have hSd := HM.out.drew
      clear HM
      refine wp_region_held (S := fun u => Env w u n4 [(q13, (38, nmA (lb dd))), (q11, (38, nmA (lb aa))), (q12, (38, nmA (lb bb))), (q9, (38, nmA (lb sa))), (q10, (38, nmA (lb sb))), (q8, (40, fdA p o)), ((w.heap.size + 4), (62, fdA 0 0)), ((w.heap.size + 3), (62, fdA 0 0)), ((w.heap.size + 2), (62, fdA A3 C3)), ((w.heap.size + 1), (62, fdA A2 C2)), (w.heap.size, (42, ldA p o U))]) (by kernel_rfl) ?_
      change wpAnyH _ _ _ _ _ _ _ _ wl.drew
      have HSx := Lib.hid hSd
      clear hSd
      generalize wl.drew = wd at HSx ⊢
      refine takeH (i := 0) (some 45) (.agg (fdA p o)) rfl rfl rfl (by kernel_rfl) (by kernel_rfl) (by kernel_rfl) (fun _ _ _ h => h) (load_row 40 _ rfl q8 (by kernel_rfl) 40 (fdA p o) (0, 0) _ Try.underlying40 rfl (by kernel_rfl) (fun w h => h.get 5 rfl)) HSx.out ?_
      simp only [Act.put, List.setIfInBounds_toArray, List.set_cons_zero, List.set_cons_succ]
      refine takeH (i := 1) (some 46) (.agg (fdA p o)) rfl rfl rfl (by kernel_rfl) (by kernel_rfl) (by kernel_rfl) (fun _ _ _ h => h) (load_row 40 _ rfl q8 (by kernel_rfl) 40 (fdA p o) (0, 0) _ Try.underlying40 rfl (by kernel_rfl) (fun w h => h.get 5 rfl)) HSx.out ?_
      simp only [Act.put, List.setIfInBounds_toArray, List.set_cons_zero, List.set_cons_succ]
      refine takeH (i := 2) (some 47) (.pointer (some ⟨(w.heap.size + 2), 0, none⟩)) rfl rfl rfl (by kernel_rfl) (by kernel_rfl) (by kernel_rfl) (fun _ _ _ h => h) (fun w _ => by go_simp) HSx.out ?_
      simp only [Act.put, List.setIfInBounds_toArray, List.set_cons_zero, List.set_cons_succ]
      refine takeH (i := 3) (some 48) (.agg (nmA (lb A3))) rfl rfl rfl (by kernel_rfl) (by kernel_rfl) (by kernel_rfl) (fun _ _ _ h => h) (load_mid 38 _ rfl (w.heap.size + 2) 0 (by kernel_rfl) (nmA (lb A3)) _ Try.underlying38 rfl (by kernel_rfl) (fun w h => pt_x (h.get 8 rfl))) HSx.out ?_
      simp only [Act.put, List.setIfInBounds_toArray, List.set_cons_zero, List.set_cons_succ]
      refine takeH (i := 4) (some 49) (.pointer (some ⟨(w.heap.size + 2), 8, none⟩)) rfl rfl rfl (by kernel_rfl) (by kernel_rfl) (by kernel_rfl) (fun _ _ _ h => h) (fun w _ => by go_simp) HSx.out ?_
      simp only [Act.put, List.setIfInBounds_toArray, List.set_cons_zero, List.set_cons_succ]
      refine takeH (i := 5) (some 50) (.agg (nmA (lb C3))) rfl rfl rfl (by kernel_rfl) (by kernel_rfl) (by kernel_rfl) (fun _ _ _ h => h) (load_mid 38 _ rfl (w.heap.size + 2) 8 (by kernel_rfl) (nmA (lb C3)) _ Try.underlying38 rfl (by kernel_rfl) (fun w h => pt_z (h.get 8 rfl))) HSx.out ?_
      simp only [Act.put, List.setIfInBounds_toArray, List.set_cons_zero, List.set_cons_succ]
      refine takeH (i := 7) (some 52) (.agg (nmA (lb sa))) rfl rfl rfl (by kernel_rfl) (by kernel_rfl) (by kernel_rfl) (fun _ _ _ h => h) (load_row 38 _ rfl q9 (by kernel_rfl) 38 (nmA (lb sa)) (0, 0) _ Try.underlying38 rfl (by kernel_rfl) (fun w h => h.get 3 rfl)) HSx.out ?_
      simp only [Act.put, List.setIfInBounds_toArray, List.set_cons_zero, List.set_cons_succ]
      refine meetH (fun (x : Nat) a => (((a.put (some 51) (nmV ea)).put (some 53) (nmV da)).put (some 14) (.pointer (some ⟨x, 0, none⟩)))) #[true, true, true, true, true, true, true, true, true, true, false] 1 (fun (x : Nat) W => (Env w W n4 [(q13, (38, nmA (lb dd))), (q11, (38, nmA (lb aa))), (q12, (38, nmA (lb bb))), (q9, (38, nmA (lb sa))), (q10, (38, nmA (lb sb))), (q8, (40, fdA p o)), ((w.heap.size + 4), (62, fdA 0 0)), ((w.heap.size + 3), (62, fdA 0 0)), ((w.heap.size + 2), (62, fdA A3 C3)), ((w.heap.size + 1), (62, fdA A2 C2)), (w.heap.size, (42, ldA p o U))]) ∧ (n4 ≤ x ∧ Cell W x (38, nmA (lb 0)))) ?_ (fun key2_00 => ?_)
      · rintro q14 W ⟨hS, ⟨hn0, hc0⟩⟩
        simp only [Act.put, List.setIfInBounds_toArray, List.set_cons_zero, List.set_cons_succ]
        have HE := Lib.hid hS
        have C0 := Lib.hid hc0
        refine wpAnyH_ready (rs := [10]) (by kernel_rfl) (by simp) ?_
        refine storeH rfl rfl rfl 38 _ _ rfl q14 (nmA (lb da)) (by kernel_rfl) (by kernel_rfl) 38 _ C0.out (by kernel_rfl) (by first | rw [nmA_size, nmA_size] | rfl) (nmA_one _) (HE.out.far _ hn0) ?_ AllReadyH.nil
        have HE := Lib.hid (HE.out.far (nmA (lb da)) hn0)
        have C0 := Lib.hid (C0.out.put (nmA (lb da)))
        generalize W.setRow q14 (nmA (lb da)) = ws0 at HE C0 ⊢
        simp only [Act.put, List.setIfInBounds_toArray, List.set_cons_zero, List.set_cons_succ]
        refine wpAnyH_done (by kernel_rfl) ?_ _
        have HM := Lib.hid ((HE.out).add (Nat.le_trans HE.out.base hn0) (HE.out.old hn0) C0.out)
        clear HE C0 hn0 hc0 
        generalize ws0.heap.size = n5 at HM
        generalize ws0 = wz at HM ⊢
        go_upto_region 6 with (fail)
        have hSd := HM.out.drew
        clear HM
        refine wp_region_held (S := fun u => Env w u n5 [(q14, (38, nmA (lb da))), (q13, (38, nmA (lb dd))), (q11, (38, nmA (lb aa))), (q12, (38, nmA (lb bb))), (q9, (38, nmA (lb sa))), (q10, (38, nmA (lb sb))), (q8, (40, fdA p o)), ((w.heap.size + 4), (62, fdA 0 0)), ((w.heap.size + 3), (62, fdA 0 0)), ((w.heap.size + 2), (62, fdA A3 C3)), ((w.heap.size + 1), (62, fdA A2 C2)), (w.heap.size, (42, ldA p o U))]) (by kernel_rfl) ?_
        change wpAnyH _ _ _ _ _ _ _ _ wz.drew
        have HSx := Lib.hid hSd
        clear hSd
        generalize wz.drew = wd at HSx ⊢
        refine takeH (i := 0) (some 54) (.agg (fdA p o)) rfl rfl rfl (by kernel_rfl) (by kernel_rfl) (by kernel_rfl) (fun _ _ _ h => h) (load_row 40 _ rfl q8 (by kernel_rfl) 40 (fdA p o) (0, 0) _ Try.underlying40 rfl (by kernel_rfl) (fun w h => h.get 6 rfl)) HSx.out ?_
        simp only [Act.put, List.setIfInBounds_toArray, List.set_cons_zero, List.set_cons_succ]
        refine takeH (i := 1) (some 55) (.agg (fdA p o)) rfl rfl rfl (by kernel_rfl) (by kernel_rfl) (by kernel_rfl) (fun _ _ _ h => h) (load_row 40 _ rfl q8 (by kernel_rfl) 40 (fdA p o) (0, 0) _ Try.underlying40 rfl (by kernel_rfl) (fun w h => h.get 6 rfl)) HSx.out ?_
        simp only [Act.put, List.setIfInBounds_toArray, List.set_cons_zero, List.set_cons_succ]
        refine takeH (i := 2) (some 56) (.pointer (some ⟨(w.heap.size + 2), 0, none⟩)) rfl rfl rfl (by kernel_rfl) (by kernel_rfl) (by kernel_rfl) (fun _ _ _ h => h) (fun w _ => by go_simp) HSx.out ?_
        simp only [Act.put, List.setIfInBounds_toArray, List.set_cons_zero, List.set_cons_succ]
        refine takeH (i := 3) (some 57) (.agg (nmA (lb A3))) rfl rfl rfl (by kernel_rfl) (by kernel_rfl) (by kernel_rfl) (fun _ _ _ h => h) (load_mid 38 _ rfl (w.heap.size + 2) 0 (by kernel_rfl) (nmA (lb A3)) _ Try.underlying38 rfl (by kernel_rfl) (fun w h => pt_x (h.get 9 rfl))) HSx.out ?_
        simp only [Act.put, List.setIfInBounds_toArray, List.set_cons_zero, List.set_cons_succ]
        refine takeH (i := 4) (some 58) (.pointer (some ⟨(w.heap.size + 2), 8, none⟩)) rfl rfl rfl (by kernel_rfl) (by kernel_rfl) (by kernel_rfl) (fun _ _ _ h => h) (fun w _ => by go_simp) HSx.out ?_
        simp only [Act.put, List.setIfInBounds_toArray, List.set_cons_zero, List.set_cons_succ]
        refine takeH (i := 5) (some 59) (.agg (nmA (lb C3))) rfl rfl rfl (by kernel_rfl) (by kernel_rfl) (by kernel_rfl) (fun _ _ _ h => h) (load_mid 38 _ rfl (w.heap.size + 2) 8 (by kernel_rfl) (nmA (lb C3)) _ Try.underlying38 rfl (by kernel_rfl) (fun w h => pt_z (h.get 9 rfl))) HSx.out ?_
        simp only [Act.put, List.setIfInBounds_toArray, List.set_cons_zero, List.set_cons_succ]
        refine takeH (i := 7) (some 61) (.agg (nmA (lb sb))) rfl rfl rfl (by kernel_rfl) (by kernel_rfl) (by kernel_rfl) (fun _ _ _ h => h) (load_row 38 _ rfl q10 (by kernel_rfl) 38 (nmA (lb sb)) (0, 0) _ Try.underlying38 rfl (by kernel_rfl) (fun w h => h.get 5 rfl)) HSx.out ?_
        simp only [Act.put, List.setIfInBounds_toArray, List.set_cons_zero, List.set_cons_succ]
        refine meetH (fun (x : Nat) a => (((a.put (some 60) (nmV eb)).put (some 62) (nmV cb)).put (some 15) (.pointer (some ⟨x, 0, none⟩)))) #[true, true, true, true, true, true, true, true, true, true, false] 1 (fun (x : Nat) W => (Env w W n5 [(q14, (38, nmA (lb da))), (q13, (38, nmA (lb dd))), (q11, (38, nmA (lb aa))), (q12, (38, nmA (lb bb))), (q9, (38, nmA (lb sa))), (q10, (38, nmA (lb sb))), (q8, (40, fdA p o)), ((w.heap.size + 4), (62, fdA 0 0)), ((w.heap.size + 3), (62, fdA 0 0)), ((w.heap.size + 2), (62, fdA A3 C3)), ((w.heap.size + 1), (62, fdA A2 C2)), (w.heap.size, (42, ldA p o U))]) ∧ (n5 ≤ x ∧ Cell W x (38, nmA (lb 0)))) ?_ (fun key2_00 => ?_)
        · rintro q15 W ⟨hS, ⟨hn0, hc0⟩⟩
          simp only [Act.put, List.setIfInBounds_toArray, List.set_cons_zero, List.set_cons_succ]
          have HE := Lib.hid hS
          have C0 := Lib.hid hc0
          refine wpAnyH_ready (rs := [10]) (by kernel_rfl) (by simp) ?_
          refine storeH rfl rfl rfl 38 _ _ rfl q15 (nmA (lb cb)) (by kernel_rfl) (by kernel_rfl) 38 _ C0.out (by kernel_rfl) (by first | rw [nmA_size, nmA_size] | rfl) (nmA_one _) (HE.out.far _ hn0) ?_ AllReadyH.nil
          have HE := Lib.hid (HE.out.far (nmA (lb cb)) hn0)
          have C0 := Lib.hid (C0.out.put (nmA (lb cb)))
          generalize W.setRow q15 (nmA (lb cb)) = ws0 at HE C0 ⊢
          simp only [Act.put, List.setIfInBounds_toArray, List.set_cons_zero, List.set_cons_succ]
          refine wpAnyH_done (by kernel_rfl) ?_ _
          have HM := Lib.hid ((HE.out).add (Nat.le_trans HE.out.base hn0) (HE.out.old hn0) C0.out)
          clear HE C0 hn0 hc0 
          generalize ws0.heap.size = n6 at HM
          generalize ws0 = wz at HM ⊢
          go_upto_region 7 with (fail)
          have hSd := HM.out.drew
          clear HM
          refine wp_region_held (S := fun u => Env w u n6 [(q15, (38, nmA (lb cb))), (q14, (38, nmA (lb da))), (q13, (38, nmA (lb dd))), (q11, (38, nmA (lb aa))), (q12, (38, nmA (lb bb))), (q9, (38, nmA (lb sa))), (q10, (38, nmA (lb sb))), (q8, (40, fdA p o)), ((w.heap.size + 4), (62, fdA 0 0)), ((w.heap.size + 3), (62, fdA 0 0)), ((w.heap.size + 2), (62, fdA A3 C3)), ((w.heap.size + 1), (62, fdA A2 C2)), (w.heap.size, (42, ldA p o U))]) (by kernel_rfl) ?_
          change wpAnyH _ _ _ _ _ _ _ _ wz.drew
          have HSx := Lib.hid hSd
          clear hSd
          generalize wz.drew = wd at HSx ⊢
          refine takeH (i := 0) (some 63) (.agg (fdA p o)) rfl rfl rfl (by kernel_rfl) (by kernel_rfl) (by kernel_rfl) (fun _ _ _ h => h) (load_row 40 _ rfl q8 (by kernel_rfl) 40 (fdA p o) (0, 0) _ Try.underlying40 rfl (by kernel_rfl) (fun w h => h.get 7 rfl)) HSx.out ?_
          simp only [Act.put, List.setIfInBounds_toArray, List.set_cons_zero, List.set_cons_succ]
          refine takeH (i := 1) (some 64) (.agg (nmA (lb da))) rfl rfl rfl (by kernel_rfl) (by kernel_rfl) (by kernel_rfl) (fun _ _ _ h => h) (load_row 38 _ rfl q14 (by kernel_rfl) 38 (nmA (lb da)) (0, 0) _ Try.underlying38 rfl (by kernel_rfl) (fun w h => h.get 1 rfl)) HSx.out ?_
          simp only [Act.put, List.setIfInBounds_toArray, List.set_cons_zero, List.set_cons_succ]
          refine takeH (i := 2) (some 65) (.agg (nmA (lb cb))) rfl rfl rfl (by kernel_rfl) (by kernel_rfl) (by kernel_rfl) (fun _ _ _ h => h) (load_row 38 _ rfl q15 (by kernel_rfl) 38 (nmA (lb cb)) (0, 0) _ Try.underlying38 rfl (by kernel_rfl) (fun w h => h.get 0 rfl)) HSx.out ?_
          simp only [Act.put, List.setIfInBounds_toArray, List.set_cons_zero, List.set_cons_succ]
          refine takeH (i := 4) (some 67) (.agg (fdA p o)) rfl rfl rfl (by kernel_rfl) (by kernel_rfl) (by kernel_rfl) (fun _ _ _ h => h) (load_row 40 _ rfl q8 (by kernel_rfl) 40 (fdA p o) (0, 0) _ Try.underlying40 rfl (by kernel_rfl) (fun w h => h.get 7 rfl)) HSx.out ?_
          simp only [Act.put, List.setIfInBounds_toArray, List.set_cons_zero, List.set_cons_succ]
          refine takeH (i := 5) (some 68) (.agg (nmA (lb da))) rfl rfl rfl (by kernel_rfl) (by kernel_rfl) (by kernel_rfl) (fun _ _ _ h => h) (load_row 38 _ rfl q14 (by kernel_rfl) 38 (nmA (lb da)) (0, 0) _ Try.underlying38 rfl (by kernel_rfl) (fun w h => h.get 1 rfl)) HSx.out ?_
          simp only [Act.put, List.setIfInBounds_toArray, List.set_cons_zero, List.set_cons_succ]
          refine takeH (i := 6) (some 69) (.agg (nmA (lb cb))) rfl rfl rfl (by kernel_rfl) (by kernel_rfl) (by kernel_rfl) (fun _ _ _ h => h) (load_row 38 _ rfl q15 (by kernel_rfl) 38 (nmA (lb cb)) (0, 0) _ Try.underlying38 rfl (by kernel_rfl) (fun w h => h.get 0 rfl)) HSx.out ?_
          simp only [Act.put, List.setIfInBounds_toArray, List.set_cons_zero, List.set_cons_succ]
          refine meetH (fun (x : Nat × Nat) a => ((((a.put (some 66) (nmV st)).put (some 70) (nmV mt)).put (some 16) (.pointer (some ⟨x.1, 0, none⟩))).put (some 17) (.pointer (some ⟨x.2, 0, none⟩)))) #[true, true, true, true, true, true, true, true, true, true, false, false] 2 (fun (x : Nat × Nat) W => (Env w W n6 [(q15, (38, nmA (lb cb))), (q14, (38, nmA (lb da))), (q13, (38, nmA (lb dd))), (q11, (38, nmA (lb aa))), (q12, (38, nmA (lb bb))), (q9, (38, nmA (lb sa))), (q10, (38, nmA (lb sb))), (q8, (40, fdA p o)), ((w.heap.size + 4), (62, fdA 0 0)), ((w.heap.size + 3), (62, fdA 0 0)), ((w.heap.size + 2), (62, fdA A3 C3)), ((w.heap.size + 1), (62, fdA A2 C2)), (w.heap.size, (42, ldA p o U))]) ∧ (n6 ≤ x.1 ∧ Cell W x.1 (38, nmA (lb 0))) ∧ (n6 ≤ x.2 ∧ Cell W x.2 (38, nmA (lb 0))) ∧ (¬ x.1 = x.2)) ?_ (fun key2_010 => ?_)
          · rintro ⟨q16, q17⟩ W ⟨hS, ⟨hn0, hc0⟩, ⟨hn1, hc1⟩, hd01⟩
            simp only [Act.put, List.setIfInBounds_toArray, List.set_cons_zero, List.set_cons_succ]
            have HE := Lib.hid hS
            have C0 := Lib.hid hc0
            have C1 := Lib.hid hc1
            refine wpAnyH_ready (rs := [10]) (by kernel_rfl) (by simp) ?_
            refine storeH rfl rfl rfl 38 _ _ rfl q16 (nmA (lb st)) (by kernel_rfl) (by kernel_rfl) 38 _ C0.out (by kernel_rfl) (by first | rw [nmA_size, nmA_size] | rfl) (nmA_one _) (HE.out.far _ hn0) ?_ AllReadyH.nil
            have HE := Lib.hid (HE.out.far (nmA (lb st)) hn0)
            have C0 := Lib.hid (C0.out.put (nmA (lb st)))
            have C1 := Lib.hid (C1.out.far (nmA (lb st)) (fun e => hd01 e.symm))
            generalize W.setRow q16 (nmA (lb st)) = ws0 at HE C0 C1 ⊢
            simp only [Act.put, List.setIfInBounds_toArray, List.set_cons_zero, List.set_cons_succ]
            refine wpAnyH_ready (rs := [11]) (by kernel_rfl) (by simp) ?_
            refine storeH rfl rfl rfl 38 _ _ rfl q17 (nmA (lb mt)) (by kernel_rfl) (by kernel_rfl) 38 _ C1.out (by kernel_rfl) (by first | rw [nmA_size, nmA_size] | rfl) (nmA_one _) (HE.out.far _ hn1) ?_ AllReadyH.nil
            have HE := Lib.hid (HE.out.far (nmA (lb mt)) hn1)
            have C0 := Lib.hid (C0.out.far (nmA (lb mt)) hd01)
            have C1 := Lib.hid (C1.out.put (nmA (lb mt)))
            generalize ws0.setRow q17 (nmA (lb mt)) = ws1 at HE C0 C1 ⊢
            simp only [Act.put, List.setIfInBounds_toArray, List.set_cons_zero, List.set_cons_succ]
            refine wpAnyH_done (by kernel_rfl) ?_ _
            have HM := Lib.hid ((((HE.out).add (Nat.le_trans HE.out.base hn1) (HE.out.old hn1) C1.out)).add (Nat.le_trans HE.out.base hn0) (new_cons (HE.out.old hn0) hd01) C0.out)
            clear HE C0 hn0 hc0 C1 hn1 hc1 hd01
            generalize ws1.heap.size = n7 at HM
            generalize ws1 = wz at HM ⊢
            go_upto_region 8 with (fail)
            have hSd := HM.out.drew
            clear HM
            refine wp_region_held (S := fun u => Env w u n7 [(q16, (38, nmA (lb st))), (q17, (38, nmA (lb mt))), (q15, (38, nmA (lb cb))), (q14, (38, nmA (lb da))), (q13, (38, nmA (lb dd))), (q11, (38, nmA (lb aa))), (q12, (38, nmA (lb bb))), (q9, (38, nmA (lb sa))), (q10, (38, nmA (lb sb))), (q8, (40, fdA p o)), ((w.heap.size + 4), (62, fdA 0 0)), ((w.heap.size + 3), (62, fdA 0 0)), ((w.heap.size + 2), (62, fdA A3 C3)), ((w.heap.size + 1), (62, fdA A2 C2)), (w.heap.size, (42, ldA p o U))]) (by kernel_rfl) ?_
            change wpAnyH _ _ _ _ _ _ _ _ wz.drew
            have HSx := Lib.hid hSd
            clear hSd
            generalize wz.drew = wd at HSx ⊢
            refine takeH (i := 0) (some 71) (.agg (fdA p o)) rfl rfl rfl (by kernel_rfl) (by kernel_rfl) (by kernel_rfl) (fun _ _ _ h => h) (load_row 40 _ rfl q8 (by kernel_rfl) 40 (fdA p o) (0, 0) _ Try.underlying40 rfl (by kernel_rfl) (fun w h => h.get 9 rfl)) HSx.out ?_
            simp only [Act.put, List.setIfInBounds_toArray, List.set_cons_zero, List.set_cons_succ]
            refine takeH (i := 1) (some 72) (.agg (nmA (lb aa))) rfl rfl rfl (by kernel_rfl) (by kernel_rfl) (by kernel_rfl) (fun _ _ _ h => h) (load_row 38 _ rfl q11 (by kernel_rfl) 38 (nmA (lb aa)) (0, 0) _ Try.underlying38 rfl (by kernel_rfl) (fun w h => h.get 5 rfl)) HSx.out ?_
            simp only [Act.put, List.setIfInBounds_toArray, List.set_cons_zero, List.set_cons_succ]
            refine takeH (i := 2) (some 73) (.agg (nmA (lb bb))) rfl rfl rfl (by kernel_rfl) (by kernel_rfl) (by kernel_rfl) (fun _ _ _ h => h) (load_row 38 _ rfl q12 (by kernel_rfl) 38 (nmA (lb bb)) (0, 0) _ Try.underlying38 rfl (by kernel_rfl) (fun w h => h.get 6 rfl)) HSx.out ?_
            simp only [Act.put, List.setIfInBounds_toArray, List.set_cons_zero, List.set_cons_succ]
            refine takeH (i := 4) (some 75) (.agg (fdA p o)) rfl rfl rfl (by kernel_rfl) (by kernel_rfl) (by kernel_rfl) (fun _ _ _ h => h) (load_row 40 _ rfl q8 (by kernel_rfl) 40 (fdA p o) (0, 0) _ Try.underlying40 rfl (by kernel_rfl) (fun w h => h.get 9 rfl)) HSx.out ?_
            simp only [Act.put, List.setIfInBounds_toArray, List.set_cons_zero, List.set_cons_succ]
            refine takeH (i := 5) (some 76) (.agg (nmA (lb dd))) rfl rfl rfl (by kernel_rfl) (by kernel_rfl) (by kernel_rfl) (fun _ _ _ h => h) (load_row 38 _ rfl q13 (by kernel_rfl) 38 (nmA (lb dd)) (0, 0) _ Try.underlying38 rfl (by kernel_rfl) (fun w h => h.get 4 rfl)) HSx.out ?_
            simp only [Act.put, List.setIfInBounds_toArray, List.set_cons_zero, List.set_cons_succ]
            refine takeH (i := 6) (some 77) (.agg (fdA p o)) rfl rfl rfl (by kernel_rfl) (by kernel_rfl) (by kernel_rfl) (fun _ _ _ h => h) (load_row 40 _ rfl q8 (by kernel_rfl) 40 (fdA p o) (0, 0) _ Try.underlying40 rfl (by kernel_rfl) (fun w h => h.get 9 rfl)) HSx.out ?_
            simp only [Act.put, List.setIfInBounds_toArray, List.set_cons_zero, List.set_cons_succ]
            refine takeH (i := 7) (some 78) (.agg (nmA (lb aa))) rfl rfl rfl (by kernel_rfl) (by kernel_rfl) (by kernel_rfl) (fun _ _ _ h => h) (load_row 38 _ rfl q11 (by kernel_rfl) 38 (nmA (lb aa)) (0, 0) _ Try.underlying38 rfl (by kernel_rfl) (fun w h => h.get 5 rfl)) HSx.out ?_
            simp only [Act.put, List.setIfInBounds_toArray, List.set_cons_zero, List.set_cons_succ]
            refine takeH (i := 8) (some 79) (.agg (fdA p o)) rfl rfl rfl (by kernel_rfl) (by kernel_rfl) (by kernel_rfl) (fun _ _ _ h => h) (load_row 40 _ rfl q8 (by kernel_rfl) 40 (fdA p o) (0, 0) _ Try.underlying40 rfl (by kernel_rfl) (fun w h => h.get 9 rfl)) HSx.out ?_
            simp only [Act.put, List.setIfInBounds_toArray, List.set_cons_zero, List.set_cons_succ]
            refine takeH (i := 9) (some 80) (.agg (nmA (lb 121665))) rfl rfl rfl (by kernel_rfl) (by kernel_rfl) (by kernel_rfl) (fun _ _ _ h => h) (fun w _ => by kernel_rfl) HSx.out ?_
            simp only [Act.put, List.setIfInBounds_toArray, List.set_cons_zero, List.set_cons_succ]
            refine takeH (i := 10) (some 81) (.agg (nmA (lb dd))) rfl rfl rfl (by kernel_rfl) (by kernel_rfl) (by kernel_rfl) (fun _ _ _ h => h) (load_row 38 _ rfl q13 (by kernel_rfl) 38 (nmA (lb dd)) (0, 0) _ Try.underlying38 rfl (by kernel_rfl) (fun w h => h.get 4 rfl)) HSx.out ?_
            simp only [Act.put, List.setIfInBounds_toArray, List.set_cons_zero, List.set_cons_succ]
            refine meetH (fun (x : Nat) a => ((((((a.put (some 74) (nmV x2)).put (some 82) (nmV fa)).put (some 83) (nmV fb)).put (some 84) (nmV z2)).put (some 85) (.agg (fdA x2 z2))).put (some 18) (.pointer (some ⟨x, 0, none⟩)))) #[true, true, true, true, true, true, true, true, true, true, true, true, true, true, true, true, false] 1 (fun (x : Nat) W => (Env w W n7 [(q16, (38, nmA (lb st))), (q17, (38, nmA (lb mt))), (q15, (38, nmA (lb cb))), (q14, (38, nmA (lb da))), (q13, (38, nmA (lb dd))), (q11, (38, nmA (lb aa))), (q12, (38, nmA (lb bb))), (q9, (38, nmA (lb sa))), (q10, (38, nmA (lb sb))), (q8, (40, fdA p o)), ((w.heap.size + 4), (62, fdA 0 0)), ((w.heap.size + 3), (62, fdA 0 0)), ((w.heap.size + 2), (62, fdA A3 C3)), ((w.heap.size + 1), (62, fdA A2 C2)), (w.heap.size, (42, ldA p o U))]) ∧ (n7 ≤ x ∧ Cell W x (62, fdA 0 0))) ?_ (fun key4_00 => ?_)
            · rintro q18 W ⟨hS, ⟨hn0, hc0⟩⟩
              simp only [Act.put, List.setIfInBounds_toArray, List.set_cons_zero, List.set_cons_succ]
              have HE := Lib.hid hS
              have C0 := Lib.hid hc0
              refine wpAnyH_ready (rs := [16]) (by kernel_rfl) (by simp) ?_
              refine storeH rfl rfl rfl 62 _ _ rfl q18 (fdA x2 z2) (by kernel_rfl) (by kernel_rfl) 62 _ C0.out (by kernel_rfl) (by first | rw [nmA_size, nmA_size] | rfl) (fdA_one _ _) (HE.out.far _ hn0) ?_ AllReadyH.nil
              have HE := Lib.hid (HE.out.far (fdA x2 z2) hn0)
              have C0 := Lib.hid (C0.out.put (fdA x2 z2))
              generalize W.setRow q18 (fdA x2 z2) = ws0 at HE C0 ⊢
              simp only [Act.put, List.setIfInBounds_toArray, List.set_cons_zero, List.set_cons_succ]
              refine wpAnyH_done (by kernel_rfl) ?_ _
              have HM := Lib.hid ((HE.out).add (Nat.le_trans HE.out.base hn0) (HE.out.old hn0) C0.out)
              clear HE C0 hn0 hc0 
              generalize ws0.heap.size = n8 at HM
              generalize ws0 = wz at HM ⊢
              go_upto_region 9 with (fail)
              have hSd := HM.out.drew
              clear HM
              refine wp_region_held (S := fun u => ∃ y11 y12 : Array Value, Env w u n8 [(q18, (62, fdA x2 z2)), (q16, (38, nmA (lb st))), (q17, (38, nmA (lb mt))), (q15, (38, nmA (lb cb))), (q14, (38, nmA (lb da))), (q13, (38, nmA (lb dd))), (q11, (38, nmA (lb aa))), (q12, (38, nmA (lb bb))), (q9, (38, nmA (lb sa))), (q10, (38, nmA (lb sb))), (q8, (40, fdA p o)), ((w.heap.size + 4), (62, y11)), ((w.heap.size + 3), (62, y12)), ((w.heap.size + 2), (62, fdA A3 C3)), ((w.heap.size + 1), (62, fdA A2 C2)), (w.heap.size, (42, ldA p o U))]) (by kernel_rfl) ?_
              change wpAnyH _ _ _ _ _ _ _ _ wz.drew
              have HX := Lib.hid hSd
              have HSx : Hid ((fun u => ∃ y11 y12 : Array Value, Env w u n8 [(q18, (62, fdA x2 z2)), (q16, (38, nmA (lb st))), (q17, (38, nmA (lb mt))), (q15, (38, nmA (lb cb))), (q14, (38, nmA (lb da))), (q13, (38, nmA (lb dd))), (q11, (38, nmA (lb aa))), (q12, (38, nmA (lb bb))), (q9, (38, nmA (lb sa))), (q10, (38, nmA (lb sb))), (q8, (40, fdA p o)), ((w.heap.size + 4), (62, y11)), ((w.heap.size + 3), (62, y12)), ((w.heap.size + 2), (62, fdA A3 C3)), ((w.heap.size + 1), (62, fdA A2 C2)), (w.heap.size, (42, ldA p o U))]) wz.drew) := ⟨fdA 0 0, fdA 0 0, hSd⟩
              clear hSd
              generalize wz.drew = wd at HX HSx ⊢
              refine takeH (i := 0) (some 86) (.agg (fdA x2 z2)) rfl rfl rfl (by kernel_rfl) (by kernel_rfl) (by kernel_rfl) (fun _ _ _ h => h) (load_row 62 _ rfl q18 (by kernel_rfl) 62 (fdA x2 z2) (0, 0) _ Try.underlying62 rfl (by kernel_rfl) (fun w h => by obtain ⟨y11, y12, h⟩ := h; exact h.get 0 rfl)) HSx.out ?_
              simp only [Act.put, List.setIfInBounds_toArray, List.set_cons_zero, List.set_cons_succ]
              refine takeH (i := 1) (some 87) (.agg (fdA p o)) rfl rfl rfl (by kernel_rfl) (by kernel_rfl) (by kernel_rfl) (fun _ _ _ h => h) (load_row 40 _ rfl q8 (by kernel_rfl) 40 (fdA p o) (0, 0) _ Try.underlying40 rfl (by kernel_rfl) (fun w h => by obtain ⟨y11, y12, h⟩ := h; exact h.get 10 rfl)) HSx.out ?_
              simp only [Act.put, List.setIfInBounds_toArray, List.set_cons_zero, List.set_cons_succ]
              refine takeH (i := 2) (some 88) (.agg (nmA (lb st))) rfl rfl rfl (by kernel_rfl) (by kernel_rfl) (by kernel_rfl) (fun _ _ _ h => h) (load_row 38 _ rfl q16 (by kernel_rfl) 38 (nmA (lb st)) (0, 0) _ Try.underlying38 rfl (by kernel_rfl) (fun w h => by obtain ⟨y11, y12, h⟩ := h; exact h.get 1 rfl)) HSx.out ?_
              simp only [Act.put, List.setIfInBounds_toArray, List.set_cons_zero, List.set_cons_succ]
              refine takeH (i := 3) (some 89) (.agg (nmA (lb st))) rfl rfl rfl (by kernel_rfl) (by kernel_rfl) (by kernel_rfl) (fun _ _ _ h => h) (load_row 38 _ rfl q16 (by kernel_rfl) 38 (nmA (lb st)) (0, 0) _ Try.underlying38 rfl (by kernel_rfl) (fun w h => by obtain ⟨y11, y12, h⟩ := h; exact h.get 1 rfl)) HSx.out ?_
              simp only [Act.put, List.setIfInBounds_toArray, List.set_cons_zero, List.set_cons_succ]
              refine takeH (i := 5) (some 91) (.agg (fdA p o)) rfl rfl rfl (by kernel_rfl) (by kernel_rfl) (by kernel_rfl) (fun _ _ _ h => h) (load_row 40 _ rfl q8 (by kernel_rfl) 40 (fdA p o) (0, 0) _ Try.underlying40 rfl (by kernel_rfl) (fun w h => by obtain ⟨y11, y12, h⟩ := h; exact h.get 10 rfl)) HSx.out ?_
              simp only [Act.put, List.setIfInBounds_toArray, List.set_cons_zero, List.set_cons_succ]
              refine takeH (i := 6) (some 92) (.pointer (some ⟨w.heap.size, 16, none⟩)) rfl rfl rfl (by kernel_rfl) (by kernel_rfl) (by kernel_rfl) (fun _ _ _ h => h) (fun w _ => by go_simp) HSx.out ?_
              simp only [Act.put, List.setIfInBounds_toArray, List.set_cons_zero, List.set_cons_succ]
              refine takeH (i := 7) (some 93) (.agg (nmA (lb U))) rfl rfl rfl (by kernel_rfl) (by kernel_rfl) (by kernel_rfl) (fun _ _ _ h => h) (load_mid 38 _ rfl w.heap.size 16 (by kernel_rfl) (nmA (lb U)) _ Try.underlying38 rfl (by kernel_rfl) (fun w h => by obtain ⟨y11, y12, h⟩ := h; exact ld_u (h.get 15 rfl))) HSx.out ?_
              simp only [Act.put, List.setIfInBounds_toArray, List.set_cons_zero, List.set_cons_succ]
              refine takeH (i := 8) (some 94) (.agg (fdA p o)) rfl rfl rfl (by kernel_rfl) (by kernel_rfl) (by kernel_rfl) (fun _ _ _ h => h) (load_row 40 _ rfl q8 (by kernel_rfl) 40 (fdA p o) (0, 0) _ Try.underlying40 rfl (by kernel_rfl) (fun w h => by obtain ⟨y11, y12, h⟩ := h; exact h.get 10 rfl)) HSx.out ?_
              simp only [Act.put, List.setIfInBounds_toArray, List.set_cons_zero, List.set_cons_succ]
              refine takeH (i := 9) (some 95) (.agg (nmA (lb mt))) rfl rfl rfl (by kernel_rfl) (by kernel_rfl) (by kernel_rfl) (fun _ _ _ h => h) (load_row 38 _ rfl q17 (by kernel_rfl) 38 (nmA (lb mt)) (0, 0) _ Try.underlying38 rfl (by kernel_rfl) (fun w h => by obtain ⟨y11, y12, h⟩ := h; exact h.get 2 rfl)) HSx.out ?_
              simp only [Act.put, List.setIfInBounds_toArray, List.set_cons_zero, List.set_cons_succ]
              refine takeH (i := 10) (some 96) (.agg (nmA (lb mt))) rfl rfl rfl (by kernel_rfl) (by kernel_rfl) (by kernel_rfl) (fun _ _ _ h => h) (load_row 38 _ rfl q17 (by kernel_rfl) 38 (nmA (lb mt)) (0, 0) _ Try.underlying38 rfl (by kernel_rfl) (fun w h => by obtain ⟨y11, y12, h⟩ := h; exact h.get 2 rfl)) HSx.out ?_
              simp only [Act.put, List.setIfInBounds_toArray, List.set_cons_zero, List.set_cons_succ]
              refine wpAnyH_ready (rs := [4]) (by kernel_rfl) (by simp) ?_
              refine callH (some 90) rfl rfl rfl 45 _ _ rfl (fun _ _ => by go_simp) #[fdV p o, nmV st, nmV st] (by kernel_rfl) ?_ AllReadyH.nil
              refine (Kss.out wd).mono ?_
              rintro e uc0 ⟨rfl, hb⟩
              have HX := Lib.hid (HX.out.on hb)
              refine ⟨_, rfl, ⟨fdA 0 0, fdA 0 0, HX.out⟩, ?_⟩
              clear hb
              simp only [Act.put, List.setIfInBounds_toArray, List.set_cons_zero, List.set_cons_succ]
              refine wpAnyH_ready (rs := [11]) (by kernel_rfl) (by simp) ?_
              refine callH (some 97) rfl rfl rfl 45 _ _ rfl (fun _ _ => by go_simp) #[fdV p o, nmV mt, nmV mt] (by kernel_rfl) ?_ AllReadyH.nil
              refine (Kmm.out uc0).mono ?_
              rintro e uc1 ⟨rfl, hb⟩
              have HX := Lib.hid (HX.out.on hb)
              refine ⟨_, rfl, ⟨fdA 0 0, fdA 0 0, HX.out⟩, ?_⟩
              clear hb
              simp only [Act.put, List.setIfInBounds_toArray, List.set_cons_zero, List.set_cons_succ]
              refine wpAnyH_ready (rs := [12]) (by kernel_rfl) (by simp) ?_
              refine callH (some 98) rfl rfl rfl 45 _ _ rfl (fun _ _ => by go_simp) #[fdV p o, nmV U, nmV mm] (by kernel_rfl) ?_ AllReadyH.nil
              refine (Kz3.out uc1).mono ?_
              rintro e uc2 ⟨rfl, hb⟩
              have HX := Lib.hid (HX.out.on hb)
              refine ⟨_, rfl, ⟨fdA 0 0, fdA 0 0, HX.out⟩, ?_⟩
              clear hb
              simp only [Act.put, List.setIfInBounds_toArray, List.set_cons_zero, List.set_cons_succ]
              refine takeH (i := 13) (some 99) (.agg (fdA ss z3)) rfl rfl rfl (by kernel_rfl) (by kernel_rfl) (by kernel_rfl) (fun _ _ _ h => h) (fun w _ => by kernel_rfl) ⟨fdA 0 0, fdA 0 0, HX.out⟩ ?_
              simp only [Act.put, List.setIfInBounds_toArray, List.set_cons_zero, List.set_cons_succ]
              have hput : Env w (uc2.setRow (w.heap.size + 3) (fdA x2 z2)) n8 [(q18, (62, fdA x2 z2)), (q16, (38, nmA (lb st))), (q17, (38, nmA (lb mt))), (q15, (38, nmA (lb cb))), (q14, (38, nmA (lb da))), (q13, (38, nmA (lb dd))), (q11, (38, nmA (lb aa))), (q12, (38, nmA (lb bb))), (q9, (38, nmA (lb sa))), (q10, (38, nmA (lb sb))), (q8, (40, fdA p o)), ((w.heap.size + 4), (62, fdA 0 0)), ((w.heap.size + 3), (62, fdA x2 z2)), ((w.heap.size + 2), (62, fdA A3 C3)), ((w.heap.size + 1), (62, fdA A2 C2)), (w.heap.size, (42, ldA p o U))] := HX.out.put 12 (A := fdA 0 0) rfl (fdA x2 z2)
              refine wpAnyH_ready (rs := [14]) (by kernel_rfl) (by simp) ?_
              refine storeH rfl rfl rfl 62 _ _ rfl (w.heap.size + 3) (fdA x2 z2) (by kernel_rfl) (by kernel_rfl) 62 _ (HX.out.get 12 rfl) (by kernel_rfl) (by first | rw [nmA_size, nmA_size] | rfl) (fdA_one _ _) ⟨fdA 0 0, fdA x2 z2, hput⟩ ?_ AllReadyH.nil
              have HX := Lib.hid hput
              clear hput
              generalize uc2.setRow (w.heap.size + 3) (fdA x2 z2) = ws0 at HX ⊢
              simp only [Act.put]
              have hput : Env w (ws0.setRow (w.heap.size + 4) (fdA ss z3)) n8 [(q18, (62, fdA x2 z2)), (q16, (38, nmA (lb st))), (q17, (38, nmA (lb mt))), (q15, (38, nmA (lb cb))), (q14, (38, nmA (lb da))), (q13, (38, nmA (lb dd))), (q11, (38, nmA (lb aa))), (q12, (38, nmA (lb bb))), (q9, (38, nmA (lb sa))), (q10, (38, nmA (lb sb))), (q8, (40, fdA p o)), ((w.heap.size + 4), (62, fdA ss z3)), ((w.heap.size + 3), (62, fdA x2 z2)), ((w.heap.size + 2), (62, fdA A3 C3)), ((w.heap.size + 1), (62, fdA A2 C2)), (w.heap.size, (42, ldA p o U))] := HX.out.put 11 (A := fdA 0 0) rfl (fdA ss z3)
              refine wpAnyH_ready (rs := [15]) (by kernel_rfl) (by simp) ?_
              refine storeH rfl rfl rfl 62 _ _ rfl (w.heap.size + 4) (fdA ss z3) (by kernel_rfl) (by kernel_rfl) 62 _ (HX.out.get 11 rfl) (by kernel_rfl) (by first | rw [nmA_size, nmA_size] | rfl) (fdA_one _ _) ⟨fdA ss z3, fdA x2 z2, hput⟩ ?_ AllReadyH.nil
              have HX := Lib.hid hput
              clear hput
              generalize ws0.setRow (w.heap.size + 4) (fdA ss z3) = ws1 at HX ⊢
              simp only [Act.put]
              refine wpAnyH_done (by kernel_rfl) ?_ _
              have HM := HX
              clear HX HSx
              generalize ws1 = wz at HM ⊢
              have HN0 := Lib.hid (HM.out.get 12 (g := w.heap.size + 3) (t := 62) (A := fdA x2 z2) rfl)
              have HN1 := Lib.hid (HM.out.get 11 (g := w.heap.size + 4) (t := 62) (A := fdA ss z3) rfl)
              obtain ⟨A, hA⟩ : ∃ A, fdA x2 z2 = A := ⟨_, rfl⟩
              obtain ⟨Z, hZ⟩ : ∃ A, fdA ss z3 = A := ⟨_, rfl⟩
              rw [hA] at HN0
              rw [hZ] at HN1
              go_step
              go_step
              go_step
              refine bodyPost_ret (v := .tuple #[.agg A, .agg Z]) ?_ rfl ?_
              · exact results_row_row (fn := Try.f31) Try.results31 _ _ (w.heap.size + 3) (w.heap.size + 4) 62 62 _ _ (0, 0) (0, 0) _ _ rfl rfl HN0.out HN1.out Try.underlying62 rfl (by rw [← hA]; kernel_rfl) Try.underlying62 rfl (by rw [← hZ]; kernel_rfl)
              · exact ⟨by rw [← hA, ← hZ]; rfl, HM.out.below⟩
            simp only [Act.put, List.setIfInBounds_toArray, List.set_cons_zero, List.set_cons_succ] at key4_00
            have key4_0 := Lib.hid key4_00
            clear key4_00
            refine meetH (fun (x : Nat) a => ((((a.put (some 74) (nmV x2)).put (some 82) (nmV fa)).put (some 83) (nmV fb)).put (some 18) (.pointer (some ⟨x, 0, none⟩)))) #[true, true, true, true, true, true, true, true, true, true, true, true, true, false, false, true, false] 3 (fun (x : Nat) W => (Env w W n7 [(q16, (38, nmA (lb st))), (q17, (38, nmA (lb mt))), (q15, (38, nmA (lb cb))), (q14, (38, nmA (lb da))), (q13, (38, nmA (lb dd))), (q11, (38, nmA (lb aa))), (q12, (38, nmA (lb bb))), (q9, (38, nmA (lb sa))), (q10, (38, nmA (lb sb))), (q8, (40, fdA p o)), ((w.heap.size + 4), (62, fdA 0 0)), ((w.heap.size + 3), (62, fdA 0 0)), ((w.heap.size + 2), (62, fdA A3 C3)), ((w.heap.size + 1), (62, fdA A2 C2)), (w.heap.size, (42, ldA p o U))]) ∧ (n7 ≤ x ∧ Cell W x (62, fdA 0 0))) ?_ (fun key3_00 => ?_)
            · rintro q18 W ⟨hS, ⟨hn0, hc0⟩⟩
              simp only [Act.put, List.setIfInBounds_toArray, List.set_cons_zero, List.set_cons_succ]
              refine wpAnyH_ready (rs := [13]) (by kernel_rfl) (by simp) ?_
              refine callH (some 84) rfl rfl rfl 45 _ _ rfl (fun _ _ => by go_simp) #[fdV p o, nmV dd, nmV fb] (by kernel_rfl) ?_ AllReadyH.nil
              · refine (Kz2.out W).mono ?_
                rintro e u ⟨rfl, hb⟩
                refine ⟨_, rfl, hS.on hb, ?_⟩
                simp only [Act.put, List.setIfInBounds_toArray, List.set_cons_zero, List.set_cons_succ]
                refine takeH (i := 14) (some 85) (.agg (fdA x2 z2)) rfl rfl rfl (by kernel_rfl) (by kernel_rfl) (by kernel_rfl) (fun _ _ _ h => h) (fun w _ => by kernel_rfl) (hS.on hb) ?_
                simp only [Act.put, List.setIfInBounds_toArray, List.set_cons_zero, List.set_cons_succ]
                exact key4_0.out q18 _ ⟨hS.on hb, ⟨hn0, hc0.on hb⟩⟩
            simp only [Act.put, List.setIfInBounds_toArray, List.set_cons_zero, List.set_cons_succ] at key3_00
            have key3_0 := Lib.hid key3_00
            clear key3_00
            refine meetH (fun (x : Nat) a => (((((a.put (some 74) (nmV x2)).put (some 82) (nmV fa)).put (some 83) (nmV fb)).put (some 84) (nmV z2)).put (some 85) (.agg (fdA x2 z2)))) #[true, true, true, true, true, true, true, true, true, true, true, true, true, true, true, false, false] 2 (fun (_ : Nat) W => (Env w W n7 [(q16, (38, nmA (lb st))), (q17, (38, nmA (lb mt))), (q15, (38, nmA (lb cb))), (q14, (38, nmA (lb da))), (q13, (38, nmA (lb dd))), (q11, (38, nmA (lb aa))), (q12, (38, nmA (lb bb))), (q9, (38, nmA (lb sa))), (q10, (38, nmA (lb sb))), (q8, (40, fdA p o)), ((w.heap.size + 4), (62, fdA 0 0)), ((w.heap.size + 3), (62, fdA 0 0)), ((w.heap.size + 2), (62, fdA A3 C3)), ((w.heap.size + 1), (62, fdA A2 C2)), (w.heap.size, (42, ldA p o U))])) ?_ (fun key4_0 => ?_)
            · rintro q18 W hS
              simp only [Act.put, List.setIfInBounds_toArray, List.set_cons_zero, List.set_cons_succ]
              refine wpAnyH_ready (rs := [15]) (by kernel_rfl) (by simp) ?_
              refine allocH (some 18) rfl rfl rfl 62 rfl (fdA 0 0) alloc_p (hS.alloc _) ?_ AllReadyH.nil
              · simp only [Act.put, List.setIfInBounds_toArray, List.set_cons_zero, List.set_cons_succ]
                exact key4_0.out W.heap.size _ ⟨hS.alloc _, ⟨hS.size, Cell.new _ _ _⟩⟩
            simp only [Act.put, List.setIfInBounds_toArray, List.set_cons_zero, List.set_cons_succ] at key4_0
            have key4_ := Lib.hid key4_0
            clear key4_0
            refine meetH (fun (x : Nat) a => (((a.put (some 74) (nmV x2)).put (some 82) (nmV fa)).put (some 18) (.pointer (some ⟨x, 0, none⟩)))) #[true, true, true, true, true, true, true, true, true, true, true, true, false, false, false, true, false] 4 (fun (x : Nat) W => (Env w W n7 [(q16, (38, nmA (lb st))), (q17, (38, nmA (lb mt))), (q15, (38, nmA (lb cb))), (q14, (38, nmA (lb da))), (q13, (38, nmA (lb dd))), (q11, (38, nmA (lb aa))), (q12, (38, nmA (lb bb))), (q9, (38, nmA (lb sa))), (q10, (38, nmA (lb sb))), (q8, (40, fdA p o)), ((w.heap.size + 4), (62, fdA 0 0)), ((w.heap.size + 3), (62, fdA 0 0)), ((w.heap.size + 2), (62, fdA A3 C3)), ((w.heap.size + 1), (62, fdA A2 C2)), (w.heap.size, (42, ldA p o U))]) ∧ (n7 ≤ x ∧ Cell W x (62, fdA 0 0))) ?_ (fun key2_00 => ?_)
            · rintro q18 W ⟨hS, ⟨hn0, hc0⟩⟩
              simp only [Act.put, List.setIfInBounds_toArray, List.set_cons_zero, List.set_cons_succ]
              refine wpAnyH_ready (rs := [12]) (by kernel_rfl) (by simp) ?_
              refine callH (some 83) rfl rfl rfl 43 _ _ rfl (fun _ _ => by go_simp) #[fdV p o, nmV aa, nmV fa] (by kernel_rfl) ?_ AllReadyH.nil
              · refine (Kfb.out W).mono ?_
                rintro e u ⟨rfl, hb⟩
                refine ⟨_, rfl, hS.on hb, ?_⟩
                simp only [Act.put, List.setIfInBounds_toArray, List.set_cons_zero, List.set_cons_succ]
                exact key3_0.out q18 _ ⟨hS.on hb, ⟨hn0, hc0.on hb⟩⟩
            simp only [Act.put, List.setIfInBounds_toArray, List.set_cons_zero, List.set_cons_succ] at key2_00
            have key2_0 := Lib.hid key2_00
            clear key2_00
            refine meetH (fun (x : Nat) a => (((a.put (some 74) (nmV x2)).put (some 82) (nmV fa)).put (some 83) (nmV fb))) #[true, true, true, true, true, true, true, true, true, true, true, true, true, false, false, false, false] 4 (fun (_ : Nat) W => (Env w W n7 [(q16, (38, nmA (lb st))), (q17, (38, nmA (lb mt))), (q15, (38, nmA (lb cb))), (q14, (38, nmA (lb da))), (q13, (38, nmA (lb dd))), (q11, (38, nmA (lb aa))), (q12, (38, nmA (lb bb))), (q9, (38, nmA (lb sa))), (q10, (38, nmA (lb sb))), (q8, (40, fdA p o)), ((w.heap.size + 4), (62, fdA 0 0)), ((w.heap.size + 3), (62, fdA 0 0)), ((w.heap.size + 2), (62, fdA A3 C3)), ((w.heap.size + 1), (62, fdA A2 C2)), (w.heap.size, (42, ldA p o U))])) ?_ (fun key3_0 => ?_)
            · rintro q18 W hS
              simp only [Act.put, List.setIfInBounds_toArray, List.set_cons_zero, List.set_cons_succ]
              refine wpAnyH_ready (rs := [13, 15]) (by kernel_rfl) (by simp) ?_
              refine callH (some 84) rfl rfl rfl 45 _ _ rfl (fun _ _ => by go_simp) #[fdV p o, nmV dd, nmV fb] (by kernel_rfl) ?_ (allocH (some 18) rfl rfl rfl 62 rfl (fdA 0 0) alloc_p (hS.alloc _) ?_ AllReadyH.nil)
              · refine (Kz2.out W).mono ?_
                rintro e u ⟨rfl, hb⟩
                refine ⟨_, rfl, hS.on hb, ?_⟩
                simp only [Act.put, List.setIfInBounds_toArray, List.set_cons_zero, List.set_cons_succ]
                refine takeH (i := 14) (some 85) (.agg (fdA x2 z2)) rfl rfl rfl (by kernel_rfl) (by kernel_rfl) (by kernel_rfl) (fun _ _ _ h => h) (fun w _ => by kernel_rfl) (hS.on hb) ?_
                simp only [Act.put, List.setIfInBounds_toArray, List.set_cons_zero, List.set_cons_succ]
                exact key4_.out 0 _ (hS.on hb)
              · simp only [Act.put, List.setIfInBounds_toArray, List.set_cons_zero, List.set_cons_succ]
                exact key3_0.out W.heap.size _ ⟨hS.alloc _, ⟨hS.size, Cell.new _ _ _⟩⟩
            simp only [Act.put, List.setIfInBounds_toArray, List.set_cons_zero, List.set_cons_succ] at key3_0
            have key3_ := Lib.hid key3_0
            clear key3_0
            refine meetH (fun (x : Nat) a => ((a.put (some 74) (nmV x2)).put (some 18) (.pointer (some ⟨x, 0, none⟩)))) #[true, true, true, true, true, true, true, true, true, true, true, false, false, false, false, true, false] 5 (fun (x : Nat) W => (Env w W n7 [(q16, (38, nmA (lb st))), (q17, (38, nmA (lb mt))), (q15, (38, nmA (lb cb))), (q14, (38, nmA (lb da))), (q13, (38, nmA (lb dd))), (q11, (38, nmA (lb aa))), (q12, (38, nmA (lb bb))), (q9, (38, nmA (lb sa))), (q10, (38, nmA (lb sb))), (q8, (40, fdA p o)), ((w.heap.size + 4), (62, fdA 0 0)), ((w.heap.size + 3), (62, fdA 0 0)), ((w.heap.size + 2), (62, fdA A3 C3)), ((w.heap.size + 1), (62, fdA A2 C2)), (w.heap.size, (42, ldA p o U))]) ∧ (n7 ≤ x ∧ Cell W x (62, fdA 0 0))) ?_ (fun key1_00 => ?_)
            · rintro q18 W ⟨hS, ⟨hn0, hc0⟩⟩
              simp only [Act.put, List.setIfInBounds_toArray, List.set_cons_zero, List.set_cons_succ]
              refine wpAnyH_ready (rs := [11]) (by kernel_rfl) (by simp) ?_
              refine callH (some 82) rfl rfl rfl 45 _ _ rfl (fun _ _ => by go_simp) #[fdV p o, nmV 121665, nmV dd] (by kernel_rfl) ?_ AllReadyH.nil
              · refine (Kfa.out W).mono ?_
                rintro e u ⟨rfl, hb⟩
                refine ⟨_, rfl, hS.on hb, ?_⟩
                simp only [Act.put, List.setIfInBounds_toArray, List.set_cons_zero, List.set_cons_succ]
                exact key2_0.out q18 _ ⟨hS.on hb, ⟨hn0, hc0.on hb⟩⟩
            simp only [Act.put, List.setIfInBounds_toArray, List.set_cons_zero, List.set_cons_succ] at key1_00
            have key1_0 := Lib.hid key1_00
            clear key1_00
            refine meetH (fun (x : Nat) a => ((a.put (some 74) (nmV x2)).put (some 82) (nmV fa))) #[true, true, true, true, true, true, true, true, true, true, true, true, false, false, false, false, false] 5 (fun (_ : Nat) W => (Env w W n7 [(q16, (38, nmA (lb st))), (q17, (38, nmA (lb mt))), (q15, (38, nmA (lb cb))), (q14, (38, nmA (lb da))), (q13, (38, nmA (lb dd))), (q11, (38, nmA (lb aa))), (q12, (38, nmA (lb bb))), (q9, (38, nmA (lb sa))), (q10, (38, nmA (lb sb))), (q8, (40, fdA p o)), ((w.heap.size + 4), (62, fdA 0 0)), ((w.heap.size + 3), (62, fdA 0 0)), ((w.heap.size + 2), (62, fdA A3 C3)), ((w.heap.size + 1), (62, fdA A2 C2)), (w.heap.size, (42, ldA p o U))])) ?_ (fun key2_0 => ?_)
            · rintro q18 W hS
              simp only [Act.put, List.setIfInBounds_toArray, List.set_cons_zero, List.set_cons_succ]
              refine wpAnyH_ready (rs := [12, 15]) (by kernel_rfl) (by simp) ?_
              refine callH (some 83) rfl rfl rfl 43 _ _ rfl (fun _ _ => by go_simp) #[fdV p o, nmV aa, nmV fa] (by kernel_rfl) ?_ (allocH (some 18) rfl rfl rfl 62 rfl (fdA 0 0) alloc_p (hS.alloc _) ?_ AllReadyH.nil)
              · refine (Kfb.out W).mono ?_
                rintro e u ⟨rfl, hb⟩
                refine ⟨_, rfl, hS.on hb, ?_⟩
                simp only [Act.put, List.setIfInBounds_toArray, List.set_cons_zero, List.set_cons_succ]
                exact key3_.out 0 _ (hS.on hb)
              · simp only [Act.put, List.setIfInBounds_toArray, List.set_cons_zero, List.set_cons_succ]
                exact key2_0.out W.heap.size _ ⟨hS.alloc _, ⟨hS.size, Cell.new _ _ _⟩⟩
            simp only [Act.put, List.setIfInBounds_toArray, List.set_cons_zero, List.set_cons_succ] at key2_0
            have key2_ := Lib.hid key2_0
            clear key2_0
            refine meetH (fun (x : Nat) a => (a.put (some 18) (.pointer (some ⟨x, 0, none⟩)))) #[true, true, true, false, true, true, true, true, true, true, true, false, false, false, false, true, false] 6 (fun (x : Nat) W => (Env w W n7 [(q16, (38, nmA (lb st))), (q17, (38, nmA (lb mt))), (q15, (38, nmA (lb cb))), (q14, (38, nmA (lb da))), (q13, (38, nmA (lb dd))), (q11, (38, nmA (lb aa))), (q12, (38, nmA (lb bb))), (q9, (38, nmA (lb sa))), (q10, (38, nmA (lb sb))), (q8, (40, fdA p o)), ((w.heap.size + 4), (62, fdA 0 0)), ((w.heap.size + 3), (62, fdA 0 0)), ((w.heap.size + 2), (62, fdA A3 C3)), ((w.heap.size + 1), (62, fdA A2 C2)), (w.heap.size, (42, ldA p o U))]) ∧ (n7 ≤ x ∧ Cell W x (62, fdA 0 0))) ?_ (fun key0_00 => ?_)
            · rintro q18 W ⟨hS, ⟨hn0, hc0⟩⟩
              simp only [Act.put, List.setIfInBounds_toArray, List.set_cons_zero, List.set_cons_succ]
              refine wpAnyH_ready (rs := [3]) (by kernel_rfl) (by simp) ?_
              refine callH (some 74) rfl rfl rfl 45 _ _ rfl (fun _ _ => by go_simp) #[fdV p o, nmV aa, nmV bb] (by kernel_rfl) ?_ AllReadyH.nil
              · refine (Kx2.out W).mono ?_
                rintro e u ⟨rfl, hb⟩
                refine ⟨_, rfl, hS.on hb, ?_⟩
                simp only [Act.put, List.setIfInBounds_toArray, List.set_cons_zero, List.set_cons_succ]
                exact key1_0.out q18 _ ⟨hS.on hb, ⟨hn0, hc0.on hb⟩⟩
            simp only [Act.put, List.setIfInBounds_toArray, List.set_cons_zero, List.set_cons_succ] at key0_00
            have key0_0 := Lib.hid key0_00
            clear key0_00
            refine meetH (fun (x : Nat) a => (a.put (some 74) (nmV x2))) #[true, true, true, true, true, true, true, true, true, true, true, false, false, false, false, false, false] 6 (fun (_ : Nat) W => (Env w W n7 [(q16, (38, nmA (lb st))), (q17, (38, nmA (lb mt))), (q15, (38, nmA (lb cb))), (q14, (38, nmA (lb da))), (q13, (38, nmA (lb dd))), (q11, (38, nmA (lb aa))), (q12, (38, nmA (lb bb))), (q9, (38, nmA (lb sa))), (q10, (38, nmA (lb sb))), (q8, (40, fdA p o)), ((w.heap.size + 4), (62, fdA 0 0)), ((w.heap.size + 3), (62, fdA 0 0)), ((w.heap.size + 2), (62, fdA A3 C3)), ((w.heap.size + 1), (62, fdA A2 C2)), (w.heap.size, (42, ldA p o U))])) ?_ (fun key1_0 => ?_)
            · rintro q18 W hS
              simp only [Act.put, List.setIfInBounds_toArray, List.set_cons_zero, List.set_cons_succ]
              refine wpAnyH_ready (rs := [11, 15]) (by kernel_rfl) (by simp) ?_
              refine callH (some 82) rfl rfl rfl 45 _ _ rfl (fun _ _ => by go_simp) #[fdV p o, nmV 121665, nmV dd] (by kernel_rfl) ?_ (allocH (some 18) rfl rfl rfl 62 rfl (fdA 0 0) alloc_p (hS.alloc _) ?_ AllReadyH.nil)
              · refine (Kfa.out W).mono ?_
                rintro e u ⟨rfl, hb⟩
                refine ⟨_, rfl, hS.on hb, ?_⟩
                simp only [Act.put, List.setIfInBounds_toArray, List.set_cons_zero, List.set_cons_succ]
                exact key2_.out 0 _ (hS.on hb)
              · simp only [Act.put, List.setIfInBounds_toArray, List.set_cons_zero, List.set_cons_succ]
                exact key1_0.out W.heap.size _ ⟨hS.alloc _, ⟨hS.size, Cell.new _ _ _⟩⟩
            simp only [Act.put, List.setIfInBounds_toArray, List.set_cons_zero, List.set_cons_succ] at key1_0
            have key1_ := Lib.hid key1_0
            clear key1_0
            refine wpAnyH_ready (rs := [3, 15]) (by kernel_rfl) (by simp) ?_
            refine callH (some 74) rfl rfl rfl 45 _ _ rfl (fun _ _ => by go_simp) #[fdV p o, nmV aa, nmV bb] (by kernel_rfl) ?_ (allocH (some 18) rfl rfl rfl 62 rfl (fdA 0 0) alloc_p (HSx.out.alloc _) ?_ AllReadyH.nil)
            · refine (Kx2.out wd).mono ?_
              rintro e u ⟨rfl, hb⟩
              refine ⟨_, rfl, HSx.out.on hb, ?_⟩
              simp only [Act.put, List.setIfInBounds_toArray, List.set_cons_zero, List.set_cons_succ]
              exact key1_.out 0 _ (HSx.out.on hb)
            · simp only [Act.put, List.setIfInBounds_toArray, List.set_cons_zero, List.set_cons_succ]
              exact key0_0.out wd.heap.size _ ⟨HSx.out.alloc _, ⟨HSx.out.size, Cell.new _ _ _⟩⟩
          simp only [Act.put, List.setIfInBounds_toArray, List.set_cons_zero, List.set_cons_succ] at key2_010
          have key2_01 := Lib.hid key2_010
          clear key2_010
          refine meetH (fun (x : Nat × Nat) a => (((a.put (some 66) (nmV st)).put (some 16) (.pointer (some ⟨x.1, 0, none⟩))).put (some 17) (.pointer (some ⟨x.2, 0, none⟩)))) #[true, true, true, true, true, true, true, false, true, true, false, false] 3 (fun (x : Nat × Nat) W => (Env w W n6 [(q15, (38, nmA (lb cb))), (q14, (38, nmA (lb da))), (q13, (38, nmA (lb dd))), (q11, (38, nmA (lb aa))), (q12, (38, nmA (lb bb))), (q9, (38, nmA (lb sa))), (q10, (38, nmA (lb sb))), (q8, (40, fdA p o)), ((w.heap.size + 4), (62, fdA 0 0)), ((w.heap.size + 3), (62, fdA 0 0)), ((w.heap.size + 2), (62, fdA A3 C3)), ((w.heap.size + 1), (62, fdA A2 C2)), (w.heap.size, (42, ldA p o U))]) ∧ (n6 ≤ x.1 ∧ Cell W x.1 (38, nmA (lb 0))) ∧ (n6 ≤ x.2 ∧ Cell W x.2 (38, nmA (lb 0))) ∧ (¬ x.1 = x.2)) ?_ (fun key1_010 => ?_)
          · rintro ⟨q16, q17⟩ W ⟨hS, ⟨hn0, hc0⟩, ⟨hn1, hc1⟩, hd01⟩
            simp only [Act.put, List.setIfInBounds_toArray, List.set_cons_zero, List.set_cons_succ]
            refine wpAnyH_ready (rs := [7]) (by kernel_rfl) (by simp) ?_
            refine callH (some 70) rfl rfl rfl 44 _ _ rfl (fun _ _ => by go_simp) #[fdV p o, nmV da, nmV cb] (by kernel_rfl) ?_ AllReadyH.nil
            · refine (Kmt.out W).mono ?_
              rintro e u ⟨rfl, hb⟩
              refine ⟨_, rfl, hS.on hb, ?_⟩
              simp only [Act.put, List.setIfInBounds_toArray, List.set_cons_zero, List.set_cons_succ]
              exact key2_01.out (q16, q17) _ ⟨hS.on hb, ⟨hn0, hc0.on hb⟩, ⟨hn1, hc1.on hb⟩, hd01⟩
          simp only [Act.put, List.setIfInBounds_toArray, List.set_cons_zero, List.set_cons_succ] at key1_010
          have key1_01 := Lib.hid key1_010
          clear key1_010
          refine meetH (fun (x : Nat × Nat) a => (((a.put (some 66) (nmV st)).put (some 70) (nmV mt)).put (some 16) (.pointer (some ⟨x.1, 0, none⟩)))) #[true, true, true, true, true, true, true, true, true, false, false, false] 3 (fun (x : Nat × Nat) W => (Env w W n6 [(q15, (38, nmA (lb cb))), (q14, (38, nmA (lb da))), (q13, (38, nmA (lb dd))), (q11, (38, nmA (lb aa))), (q12, (38, nmA (lb bb))), (q9, (38, nmA (lb sa))), (q10, (38, nmA (lb sb))), (q8, (40, fdA p o)), ((w.heap.size + 4), (62, fdA 0 0)), ((w.heap.size + 3), (62, fdA 0 0)), ((w.heap.size + 2), (62, fdA A3 C3)), ((w.heap.size + 1), (62, fdA A2 C2)), (w.heap.size, (42, ldA p o U))]) ∧ (n6 ≤ x.1 ∧ Cell W x.1 (38, nmA (lb 0)))) ?_ (fun key2_00 => ?_)
          · rintro ⟨q16, q17⟩ W ⟨hS, ⟨hn0, hc0⟩⟩
            simp only [Act.put, List.setIfInBounds_toArray, List.set_cons_zero, List.set_cons_succ]
            refine wpAnyH_ready (rs := [9]) (by kernel_rfl) (by simp) ?_
            refine allocH (some 17) rfl rfl rfl 38 rfl (nmA (lb 0)) alloc_n (hS.alloc _) ?_ AllReadyH.nil
            · simp only [Act.put, List.setIfInBounds_toArray, List.set_cons_zero, List.set_cons_succ]
              exact key2_01.out (q16, W.heap.size) _ ⟨hS.alloc _, ⟨hn0, hc0.alloc _⟩, ⟨hS.size, Cell.new _ _ _⟩, (fun (e : q16 = W.heap.size) => by have h : q16 < W.heap.size := hc0.lt; omega)⟩
          simp only [Act.put, List.setIfInBounds_toArray, List.set_cons_zero, List.set_cons_succ] at key2_00
          have key2_0 := Lib.hid key2_00
          clear key2_00
          refine meetH (fun (x : Nat × Nat) a => (((a.put (some 66) (nmV st)).put (some 70) (nmV mt)).put (some 17) (.pointer (some ⟨x.2, 0, none⟩)))) #[true, true, true, true, true, true, true, true, false, true, false, false] 3 (fun (x : Nat × Nat) W => (Env w W n6 [(q15, (38, nmA (lb cb))), (q14, (38, nmA (lb da))), (q13, (38, nmA (lb dd))), (q11, (38, nmA (lb aa))), (q12, (38, nmA (lb bb))), (q9, (38, nmA (lb sa))), (q10, (38, nmA (lb sb))), (q8, (40, fdA p o)), ((w.heap.size + 4), (62, fdA 0 0)), ((w.heap.size + 3), (62, fdA 0 0)), ((w.heap.size + 2), (62, fdA A3 C3)), ((w.heap.size + 1), (62, fdA A2 C2)), (w.heap.size, (42, ldA p o U))]) ∧ (n6 ≤ x.2 ∧ Cell W x.2 (38, nmA (lb 0)))) ?_ (fun key2_10 => ?_)
          · rintro ⟨q16, q17⟩ W ⟨hS, ⟨hn1, hc1⟩⟩
            simp only [Act.put, List.setIfInBounds_toArray, List.set_cons_zero, List.set_cons_succ]
            refine wpAnyH_ready (rs := [8]) (by kernel_rfl) (by simp) ?_
            refine allocH (some 16) rfl rfl rfl 38 rfl (nmA (lb 0)) alloc_n (hS.alloc _) ?_ AllReadyH.nil
            · simp only [Act.put, List.setIfInBounds_toArray, List.set_cons_zero, List.set_cons_succ]
              exact key2_01.out (W.heap.size, q17) _ ⟨hS.alloc _, ⟨hS.size, Cell.new _ _ _⟩, ⟨hn1, hc1.alloc _⟩, (fun (e : W.heap.size = q17) => by have h : q17 < W.heap.size := hc1.lt; omega)⟩
          simp only [Act.put, List.setIfInBounds_toArray, List.set_cons_zero, List.set_cons_succ] at key2_10
          have key2_1 := Lib.hid key2_10
          clear key2_10
          refine meetH (fun (x : Nat × Nat) a => ((a.put (some 16) (.pointer (some ⟨x.1, 0, none⟩))).put (some 17) (.pointer (some ⟨x.2, 0, none⟩)))) #[true, true, true, false, true, true, true, false, true, true, false, false] 4 (fun (x : Nat × Nat) W => (Env w W n6 [(q15, (38, nmA (lb cb))), (q14, (38, nmA (lb da))), (q13, (38, nmA (lb dd))), (q11, (38, nmA (lb aa))), (q12, (38, nmA (lb bb))), (q9, (38, nmA (lb sa))), (q10, (38, nmA (lb sb))), (q8, (40, fdA p o)), ((w.heap.size + 4), (62, fdA 0 0)), ((w.heap.size + 3), (62, fdA 0 0)), ((w.heap.size + 2), (62, fdA A3 C3)), ((w.heap.size + 1), (62, fdA A2 C2)), (w.heap.size, (42, ldA p o U))]) ∧ (n6 ≤ x.1 ∧ Cell W x.1 (38, nmA (lb 0))) ∧ (n6 ≤ x.2 ∧ Cell W x.2 (38, nmA (lb 0))) ∧ (¬ x.1 = x.2)) ?_ (fun key0_010 => ?_)
          · rintro ⟨q16, q17⟩ W ⟨hS, ⟨hn0, hc0⟩, ⟨hn1, hc1⟩, hd01⟩
            simp only [Act.put, List.setIfInBounds_toArray, List.set_cons_zero, List.set_cons_succ]
            refine wpAnyH_ready (rs := [3]) (by kernel_rfl) (by simp) ?_
            refine callH (some 66) rfl rfl rfl 43 _ _ rfl (fun _ _ => by go_simp) #[fdV p o, nmV da, nmV cb] (by kernel_rfl) ?_ AllReadyH.nil
            · refine (Kst.out W).mono ?_
              rintro e u ⟨rfl, hb⟩
              refine ⟨_, rfl, hS.on hb, ?_⟩
              simp only [Act.put, List.setIfInBounds_toArray, List.set_cons_zero, List.set_cons_succ]
              exact key1_01.out (q16, q17) _ ⟨hS.on hb, ⟨hn0, hc0.on hb⟩, ⟨hn1, hc1.on hb⟩, hd01⟩
          simp only [Act.put, List.setIfInBounds_toArray, List.set_cons_zero, List.set_cons_succ] at key0_010
          have key0_01 := Lib.hid key0_010
          clear key0_010
          refine meetH (fun (x : Nat × Nat) a => ((a.put (some 66) (nmV st)).put (some 16) (.pointer (some ⟨x.1, 0, none⟩)))) #[true, true, true, true, true, true, true, false, true, false, false, false] 4 (fun (x : Nat × Nat) W => (Env w W n6 [(q15, (38, nmA (lb cb))), (q14, (38, nmA (lb da))), (q13, (38, nmA (lb dd))), (q11, (38, nmA (lb aa))), (q12, (38, nmA (lb bb))), (q9, (38, nmA (lb sa))), (q10, (38, nmA (lb sb))), (q8, (40, fdA p o)), ((w.heap.size + 4), (62, fdA 0 0)), ((w.heap.size + 3), (62, fdA 0 0)), ((w.heap.size + 2), (62, fdA A3 C3)), ((w.heap.size + 1), (62, fdA A2 C2)), (w.heap.size, (42, ldA p o U))]) ∧ (n6 ≤ x.1 ∧ Cell W x.1 (38, nmA (lb 0)))) ?_ (fun key1_00 => ?_)
          · rintro ⟨q16, q17⟩ W ⟨hS, ⟨hn0, hc0⟩⟩
            simp only [Act.put, List.setIfInBounds_toArray, List.set_cons_zero, List.set_cons_succ]
            refine wpAnyH_ready (rs := [7, 9]) (by kernel_rfl) (by simp) ?_
            refine callH (some 70) rfl rfl rfl 44 _ _ rfl (fun _ _ => by go_simp) #[fdV p o, nmV da, nmV cb] (by kernel_rfl) ?_ (allocH (some 17) rfl rfl rfl 38 rfl (nmA (lb 0)) alloc_n (hS.alloc _) ?_ AllReadyH.nil)
            · refine (Kmt.out W).mono ?_
              rintro e u ⟨rfl, hb⟩
              refine ⟨_, rfl, hS.on hb, ?_⟩
              simp only [Act.put, List.setIfInBounds_toArray, List.set_cons_zero, List.set_cons_succ]
              exact key2_0.out (q16, 0) _ ⟨hS.on hb, ⟨hn0, hc0.on hb⟩⟩
            · simp only [Act.put, List.setIfInBounds_toArray, List.set_cons_zero, List.set_cons_succ]
              exact key1_01.out (q16, W.heap.size) _ ⟨hS.alloc _, ⟨hn0, hc0.alloc _⟩, ⟨hS.size, Cell.new _ _ _⟩, (fun (e : q16 = W.heap.size) => by have h : q16 < W.heap.size := hc0.lt; omega)⟩
          simp only [Act.put, List.setIfInBounds_toArray, List.set_cons_zero, List.set_cons_succ] at key1_00
          have key1_0 := Lib.hid key1_00
          clear key1_00
          refine meetH (fun (x : Nat × Nat) a => ((a.put (some 66) (nmV st)).put (some 17) (.pointer (some ⟨x.2, 0, none⟩)))) #[true, true, true, true, true, true, true, false, false, true, false, false] 4 (fun (x : Nat × Nat) W => (Env w W n6 [(q15, (38, nmA (lb cb))), (q14, (38, nmA (lb da))), (q13, (38, nmA (lb dd))), (q11, (38, nmA (lb aa))), (q12, (38, nmA (lb bb))), (q9, (38, nmA (lb sa))), (q10, (38, nmA (lb sb))), (q8, (40, fdA p o)), ((w.heap.size + 4), (62, fdA 0 0)), ((w.heap.size + 3), (62, fdA 0 0)), ((w.heap.size + 2), (62, fdA A3 C3)), ((w.heap.size + 1), (62, fdA A2 C2)), (w.heap.size, (42, ldA p o U))]) ∧ (n6 ≤ x.2 ∧ Cell W x.2 (38, nmA (lb 0)))) ?_ (fun key1_10 => ?_)
          · rintro ⟨q16, q17⟩ W ⟨hS, ⟨hn1, hc1⟩⟩
            simp only [Act.put, List.setIfInBounds_toArray, List.set_cons_zero, List.set_cons_succ]
            refine wpAnyH_ready (rs := [7, 8]) (by kernel_rfl) (by simp) ?_
            refine callH (some 70) rfl rfl rfl 44 _ _ rfl (fun _ _ => by go_simp) #[fdV p o, nmV da, nmV cb] (by kernel_rfl) ?_ (allocH (some 16) rfl rfl rfl 38 rfl (nmA (lb 0)) alloc_n (hS.alloc _) ?_ AllReadyH.nil)
            · refine (Kmt.out W).mono ?_
              rintro e u ⟨rfl, hb⟩
              refine ⟨_, rfl, hS.on hb, ?_⟩
              simp only [Act.put, List.setIfInBounds_toArray, List.set_cons_zero, List.set_cons_succ]
              exact key2_1.out (0, q17) _ ⟨hS.on hb, ⟨hn1, hc1.on hb⟩⟩
            · simp only [Act.put, List.setIfInBounds_toArray, List.set_cons_zero, List.set_cons_succ]
              exact key1_01.out (W.heap.size, q17) _ ⟨hS.alloc _, ⟨hS.size, Cell.new _ _ _⟩, ⟨hn1, hc1.alloc _⟩, (fun (e : W.heap.size = q17) => by have h : q17 < W.heap.size := hc1.lt; omega)⟩
          simp only [Act.put, List.setIfInBounds_toArray, List.set_cons_zero, List.set_cons_succ] at key1_10
          have key1_1 := Lib.hid key1_10
          clear key1_10
          refine meetH (fun (x : Nat × Nat) a => ((a.put (some 66) (nmV st)).put (some 70) (nmV mt))) #[true, true, true, true, true, true, true, true, false, false, false, false] 4 (fun (_ : Nat × Nat) W => (Env w W n6 [(q15, (38, nmA (lb cb))), (q14, (38, nmA (lb da))), (q13, (38, nmA (lb dd))), (q11, (38, nmA (lb aa))), (q12, (38, nmA (lb bb))), (q9, (38, nmA (lb sa))), (q10, (38, nmA (lb sb))), (q8, (40, fdA p o)), ((w.heap.size + 4), (62, fdA 0 0)), ((w.heap.size + 3), (62, fdA 0 0)), ((w.heap.size + 2), (62, fdA A3 C3)), ((w.heap.size + 1), (62, fdA A2 C2)), (w.heap.size, (42, ldA p o U))])) ?_ (fun key2_0 => ?_)
          · rintro ⟨q16, q17⟩ W hS
            simp only [Act.put, List.setIfInBounds_toArray, List.set_cons_zero, List.set_cons_succ]
            refine wpAnyH_ready (rs := [8, 9]) (by kernel_rfl) (by simp) ?_
            refine allocH (some 16) rfl rfl rfl 38 rfl (nmA (lb 0)) alloc_n (hS.alloc _) ?_ (allocH (some 17) rfl rfl rfl 38 rfl (nmA (lb 0)) alloc_n (hS.alloc _) ?_ AllReadyH.nil)
            · simp only [Act.put, List.setIfInBounds_toArray, List.set_cons_zero, List.set_cons_succ]
              exact key2_0.out (W.heap.size, 0) _ ⟨hS.alloc _, ⟨hS.size, Cell.new _ _ _⟩⟩
            · simp only [Act.put, List.setIfInBounds_toArray, List.set_cons_zero, List.set_cons_succ]
              exact key2_1.out (0, W.heap.size) _ ⟨hS.alloc _, ⟨hS.size, Cell.new _ _ _⟩⟩
          simp only [Act.put, List.setIfInBounds_toArray, List.set_cons_zero, List.set_cons_succ] at key2_0
          have key2_ := Lib.hid key2_0
          clear key2_0
          refine meetH (fun (x : Nat × Nat) a => (a.put (some 16) (.pointer (some ⟨x.1, 0, none⟩)))) #[true, true, true, false, true, true, true, false, true, false, false, false] 5 (fun (x : Nat × Nat) W => (Env w W n6 [(q15, (38, nmA (lb cb))), (q14, (38, nmA (lb da))), (q13, (38, nmA (lb dd))), (q11, (38, nmA (lb aa))), (q12, (38, nmA (lb bb))), (q9, (38, nmA (lb sa))), (q10, (38, nmA (lb sb))), (q8, (40, fdA p o)), ((w.heap.size + 4), (62, fdA 0 0)), ((w.heap.size + 3), (62, fdA 0 0)), ((w.heap.size + 2), (62, fdA A3 C3)), ((w.heap.size + 1), (62, fdA A2 C2)), (w.heap.size, (42, ldA p o U))]) ∧ (n6 ≤ x.1 ∧ Cell W x.1 (38, nmA (lb 0)))) ?_ (fun key0_00 => ?_)
          · rintro ⟨q16, q17⟩ W ⟨hS, ⟨hn0, hc0⟩⟩
            simp only [Act.put, List.setIfInBounds_toArray, List.set_cons_zero, List.set_cons_succ]
            refine wpAnyH_ready (rs := [3, 9]) (by kernel_rfl) (by simp) ?_
            refine callH (some 66) rfl rfl rfl 43 _ _ rfl (fun _ _ => by go_simp) #[fdV p o, nmV da, nmV cb] (by kernel_rfl) ?_ (allocH (some 17) rfl rfl rfl 38 rfl (nmA (lb 0)) alloc_n (hS.alloc _) ?_ AllReadyH.nil)
            · refine (Kst.out W).mono ?_
              rintro e u ⟨rfl, hb⟩
              refine ⟨_, rfl, hS.on hb, ?_⟩
              simp only [Act.put, List.setIfInBounds_toArray, List.set_cons_zero, List.set_cons_succ]
              exact key1_0.out (q16, 0) _ ⟨hS.on hb, ⟨hn0, hc0.on hb⟩⟩
            · simp only [Act.put, List.setIfInBounds_toArray, List.set_cons_zero, List.set_cons_succ]
              exact key0_01.out (q16, W.heap.size) _ ⟨hS.alloc _, ⟨hn0, hc0.alloc _⟩, ⟨hS.size, Cell.new _ _ _⟩, (fun (e : q16 = W.heap.size) => by have h : q16 < W.heap.size := hc0.lt; omega)⟩
          simp only [Act.put, List.setIfInBounds_toArray, List.set_cons_zero, List.set_cons_succ] at key0_00
          have key0_0 := Lib.hid key0_00
          clear key0_00
          refine meetH (fun (x : Nat × Nat) a => (a.put (some 17) (.pointer (some ⟨x.2, 0, none⟩)))) #[true, true, true, false, true, true, true, false, false, true, false, false] 5 (fun (x : Nat × Nat) W => (Env w W n6 [(q15, (38, nmA (lb cb))), (q14, (38, nmA (lb da))), (q13, (38, nmA (lb dd))), (q11, (38, nmA (lb aa))), (q12, (38, nmA (lb bb))), (q9, (38, nmA (lb sa))), (q10, (38, nmA (lb sb))), (q8, (40, fdA p o)), ((w.heap.size + 4), (62, fdA 0 0)), ((w.heap.size + 3), (62, fdA 0 0)), ((w.heap.size + 2), (62, fdA A3 C3)), ((w.heap.size + 1), (62, fdA A2 C2)), (w.heap.size, (42, ldA p o U))]) ∧ (n6 ≤ x.2 ∧ Cell W x.2 (38, nmA (lb 0)))) ?_ (fun key0_10 => ?_)
          · rintro ⟨q16, q17⟩ W ⟨hS, ⟨hn1, hc1⟩⟩
            simp only [Act.put, List.setIfInBounds_toArray, List.set_cons_zero, List.set_cons_succ]
            refine wpAnyH_ready (rs := [3, 8]) (by kernel_rfl) (by simp) ?_
            refine callH (some 66) rfl rfl rfl 43 _ _ rfl (fun _ _ => by go_simp) #[fdV p o, nmV da, nmV cb] (by kernel_rfl) ?_ (allocH (some 16) rfl rfl rfl 38 rfl (nmA (lb 0)) alloc_n (hS.alloc _) ?_ AllReadyH.nil)
            · refine (Kst.out W).mono ?_
              rintro e u ⟨rfl, hb⟩
              refine ⟨_, rfl, hS.on hb, ?_⟩
              simp only [Act.put, List.setIfInBounds_toArray, List.set_cons_zero, List.set_cons_succ]
              exact key1_1.out (0, q17) _ ⟨hS.on hb, ⟨hn1, hc1.on hb⟩⟩
            · simp only [Act.put, List.setIfInBounds_toArray, List.set_cons_zero, List.set_cons_succ]
              exact key0_01.out (W.heap.size, q17) _ ⟨hS.alloc _, ⟨hS.size, Cell.new _ _ _⟩, ⟨hn1, hc1.alloc _⟩, (fun (e : W.heap.size = q17) => by have h : q17 < W.heap.size := hc1.lt; omega)⟩
          simp only [Act.put, List.setIfInBounds_toArray, List.set_cons_zero, List.set_cons_succ] at key0_10
          have key0_1 := Lib.hid key0_10
          clear key0_10
          refine meetH (fun (x : Nat × Nat) a => (a.put (some 66) (nmV st))) #[true, true, true, true, true, true, true, false, false, false, false, false] 5 (fun (_ : Nat × Nat) W => (Env w W n6 [(q15, (38, nmA (lb cb))), (q14, (38, nmA (lb da))), (q13, (38, nmA (lb dd))), (q11, (38, nmA (lb aa))), (q12, (38, nmA (lb bb))), (q9, (38, nmA (lb sa))), (q10, (38, nmA (lb sb))), (q8, (40, fdA p o)), ((w.heap.size + 4), (62, fdA 0 0)), ((w.heap.size + 3), (62, fdA 0 0)), ((w.heap.size + 2), (62, fdA A3 C3)), ((w.heap.size + 1), (62, fdA A2 C2)), (w.heap.size, (42, ldA p o U))])) ?_ (fun key1_0 => ?_)
          · rintro ⟨q16, q17⟩ W hS
            simp only [Act.put, List.setIfInBounds_toArray, List.set_cons_zero, List.set_cons_succ]
            refine wpAnyH_ready (rs := [7, 8, 9]) (by kernel_rfl) (by simp) ?_
            refine callH (some 70) rfl rfl rfl 44 _ _ rfl (fun _ _ => by go_simp) #[fdV p o, nmV da, nmV cb] (by kernel_rfl) ?_ (allocH (some 16) rfl rfl rfl 38 rfl (nmA (lb 0)) alloc_n (hS.alloc _) ?_ (allocH (some 17) rfl rfl rfl 38 rfl (nmA (lb 0)) alloc_n (hS.alloc _) ?_ AllReadyH.nil))
            · refine (Kmt.out W).mono ?_
              rintro e u ⟨rfl, hb⟩
              refine ⟨_, rfl, hS.on hb, ?_⟩
              simp only [Act.put, List.setIfInBounds_toArray, List.set_cons_zero, List.set_cons_succ]
              exact key2_.out (0, 0) _ (hS.on hb)
            · simp only [Act.put, List.setIfInBounds_toArray, List.set_cons_zero, List.set_cons_succ]
              exact key1_0.out (W.heap.size, 0) _ ⟨hS.alloc _, ⟨hS.size, Cell.new _ _ _⟩⟩
            · simp only [Act.put, List.setIfInBounds_toArray, List.set_cons_zero, List.set_cons_succ]
              exact key1_1.out (0, W.heap.size) _ ⟨hS.alloc _, ⟨hS.size, Cell.new _ _ _⟩⟩
          simp only [Act.put, List.setIfInBounds_toArray, List.set_cons_zero, List.set_cons_succ] at key1_0
          have key1_ := Lib.hid key1_0
          clear key1_0
          refine wpAnyH_ready (rs := [3, 8, 9]) (by kernel_rfl) (by simp) ?_
          refine callH (some 66) rfl rfl rfl 43 _ _ rfl (fun _ _ => by go_simp) #[fdV p o, nmV da, nmV cb] (by kernel_rfl) ?_ (allocH (some 16) rfl rfl rfl 38 rfl (nmA (lb 0)) alloc_n (HSx.out.alloc _) ?_ (allocH (some 17) rfl rfl rfl 38 rfl (nmA (lb 0)) alloc_n (HSx.out.alloc _) ?_ AllReadyH.nil))
          · refine (Kst.out wd).mono ?_
            rintro e u ⟨rfl, hb⟩
            refine ⟨_, rfl, HSx.out.on hb, ?_⟩
            simp only [Act.put, List.setIfInBounds_toArray, List.set_cons_zero, List.set_cons_succ]
            exact key1_.out (0, 0) _ (HSx.out.on hb)
          · simp only [Act.put, List.setIfInBounds_toArray, List.set_cons_zero, List.set_cons_succ]
            exact key0_0.out (wd.heap.size, 0) _ ⟨HSx.out.alloc _, ⟨HSx.out.size, Cell.new _ _ _⟩⟩
          · simp only [Act.put, List.setIfInBounds_toArray, List.set_cons_zero, List.set_cons_succ]
            exact key0_1.out (0, wd.heap.size) _ ⟨HSx.out.alloc _, ⟨HSx.out.size, Cell.new _ _ _⟩⟩
        simp only [Act.put, List.setIfInBounds_toArray, List.set_cons_zero, List.set_cons_succ] at key2_00
        have key2_0 := Lib.hid key2_00
        clear key2_00
        refine meetH (fun (x : Nat) a => ((a.put (some 60) (nmV eb)).put (some 15) (.pointer (some ⟨x, 0, none⟩)))) #[true, true, true, true, true, true, true, true, false, true, false] 2 (fun (x : Nat) W => (Env w W n5 [(q14, (38, nmA (lb da))), (q13, (38, nmA (lb dd))), (q11, (38, nmA (lb aa))), (q12, (38, nmA (lb bb))), (q9, (38, nmA (lb sa))), (q10, (38, nmA (lb sb))), (q8, (40, fdA p o)), ((w.heap.size + 4), (62, fdA 0 0)), ((w.heap.size + 3), (62, fdA 0 0)), ((w.heap.size + 2), (62, fdA A3 C3)), ((w.heap.size + 1), (62, fdA A2 C2)), (w.heap.size, (42, ldA p o U))]) ∧ (n5 ≤ x ∧ Cell W x (38, nmA (lb 0)))) ?_ (fun key1_00 => ?_)
        · rintro q15 W ⟨hS, ⟨hn0, hc0⟩⟩
          simp only [Act.put, List.setIfInBounds_toArray, List.set_cons_zero, List.set_cons_succ]
          refine wpAnyH_ready (rs := [8]) (by kernel_rfl) (by simp) ?_
          refine callH (some 62) rfl rfl rfl 45 _ _ rfl (fun _ _ => by go_simp) #[fdV p o, nmV eb, nmV sb] (by kernel_rfl) ?_ AllReadyH.nil
          · refine (Kcb.out W).mono ?_
            rintro e u ⟨rfl, hb⟩
            refine ⟨_, rfl, hS.on hb, ?_⟩
            simp only [Act.put, List.setIfInBounds_toArray, List.set_cons_zero, List.set_cons_succ]
            exact key2_0.out q15 _ ⟨hS.on hb, ⟨hn0, hc0.on hb⟩⟩
        simp only [Act.put, List.setIfInBounds_toArray, List.set_cons_zero, List.set_cons_succ] at key1_00
        have key1_0 := Lib.hid key1_00
        clear key1_00
        refine meetH (fun (x : Nat) a => ((a.put (some 60) (nmV eb)).put (some 62) (nmV cb))) #[true, true, true, true, true, true, true, true, true, false, false] 2 (fun (_ : Nat) W => (Env w W n5 [(q14, (38, nmA (lb da))), (q13, (38, nmA (lb dd))), (q11, (38, nmA (lb aa))), (q12, (38, nmA (lb bb))), (q9, (38, nmA (lb sa))), (q10, (38, nmA (lb sb))), (q8, (40, fdA p o)), ((w.heap.size + 4), (62, fdA 0 0)), ((w.heap.size + 3), (62, fdA 0 0)), ((w.heap.size + 2), (62, fdA A3 C3)), ((w.heap.size + 1), (62, fdA A2 C2)), (w.heap.size, (42, ldA p o U))])) ?_ (fun key2_0 => ?_)
        · rintro q15 W hS
          simp only [Act.put, List.setIfInBounds_toArray, List.set_cons_zero, List.set_cons_succ]
          refine wpAnyH_ready (rs := [9]) (by kernel_rfl) (by simp) ?_
          refine allocH (some 15) rfl rfl rfl 38 rfl (nmA (lb 0)) alloc_n (hS.alloc _) ?_ AllReadyH.nil
          · simp only [Act.put, List.setIfInBounds_toArray, List.set_cons_zero, List.set_cons_succ]
            exact key2_0.out W.heap.size _ ⟨hS.alloc _, ⟨hS.size, Cell.new _ _ _⟩⟩
        simp only [Act.put, List.setIfInBounds_toArray, List.set_cons_zero, List.set_cons_succ] at key2_0
        have key2_ := Lib.hid key2_0
        clear key2_0
        refine meetH (fun (x : Nat) a => (a.put (some 15) (.pointer (some ⟨x, 0, none⟩)))) #[true, true, true, true, true, true, false, true, false, true, false] 3 (fun (x : Nat) W => (Env w W n5 [(q14, (38, nmA (lb da))), (q13, (38, nmA (lb dd))), (q11, (38, nmA (lb aa))), (q12, (38, nmA (lb bb))), (q9, (38, nmA (lb sa))), (q10, (38, nmA (lb sb))), (q8, (40, fdA p o)), ((w.heap.size + 4), (62, fdA 0 0)), ((w.heap.size + 3), (62, fdA 0 0)), ((w.heap.size + 2), (62, fdA A3 C3)), ((w.heap.size + 1), (62, fdA A2 C2)), (w.heap.size, (42, ldA p o U))]) ∧ (n5 ≤ x ∧ Cell W x (38, nmA (lb 0)))) ?_ (fun key0_00 => ?_)
        · rintro q15 W ⟨hS, ⟨hn0, hc0⟩⟩
          simp only [Act.put, List.setIfInBounds_toArray, List.set_cons_zero, List.set_cons_succ]
          refine wpAnyH_ready (rs := [6]) (by kernel_rfl) (by simp) ?_
          refine callH (some 60) rfl rfl rfl 43 _ _ rfl (fun _ _ => by go_simp) #[fdV p o, nmV A3, nmV C3] (by kernel_rfl) ?_ AllReadyH.nil
          · refine (Keb.out W).mono ?_
            rintro e u ⟨rfl, hb⟩
            refine ⟨_, rfl, hS.on hb, ?_⟩
            simp only [Act.put, List.setIfInBounds_toArray, List.set_cons_zero, List.set_cons_succ]
            exact key1_0.out q15 _ ⟨hS.on hb, ⟨hn0, hc0.on hb⟩⟩
        simp only [Act.put, List.setIfInBounds_toArray, List.set_cons_zero, List.set_cons_succ] at key0_00
        have key0_0 := Lib.hid key0_00
        clear key0_00
        refine meetH (fun (x : Nat) a => (a.put (some 60) (nmV eb))) #[true, true, true, true, true, true, true, true, false, false, false] 3 (fun (_ : Nat) W => (Env w W n5 [(q14, (38, nmA (lb da))), (q13, (38, nmA (lb dd))), (q11, (38, nmA (lb aa))), (q12, (38, nmA (lb bb))), (q9, (38, nmA (lb sa))), (q10, (38, nmA (lb sb))), (q8, (40, fdA p o)), ((w.heap.size + 4), (62, fdA 0 0)), ((w.heap.size + 3), (62, fdA 0 0)), ((w.heap.size + 2), (62, fdA A3 C3)), ((w.heap.size + 1), (62, fdA A2 C2)), (w.heap.size, (42, ldA p o U))])) ?_ (fun key1_0 => ?_)
        · rintro q15 W hS
          simp only [Act.put, List.setIfInBounds_toArray, List.set_cons_zero, List.set_cons_succ]
          refine wpAnyH_ready (rs := [8, 9]) (by kernel_rfl) (by simp) ?_
          refine callH (some 62) rfl rfl rfl 45 _ _ rfl (fun _ _ => by go_simp) #[fdV p o, nmV eb, nmV sb] (by kernel_rfl) ?_ (allocH (some 15) rfl rfl rfl 38 rfl (nmA (lb 0)) alloc_n (hS.alloc _) ?_ AllReadyH.nil)
          · refine (Kcb.out W).mono ?_
            rintro e u ⟨rfl, hb⟩
            refine ⟨_, rfl, hS.on hb, ?_⟩
            simp only [Act.put, List.setIfInBounds_toArray, List.set_cons_zero, List.set_cons_succ]
            exact key2_.out 0 _ (hS.on hb)
          · simp only [Act.put, List.setIfInBounds_toArray, List.set_cons_zero, List.set_cons_succ]
            exact key1_0.out W.heap.size _ ⟨hS.alloc _, ⟨hS.size, Cell.new _ _ _⟩⟩
        simp only [Act.put, List.setIfInBounds_toArray, List.set_cons_zero, List.set_cons_succ] at key1_0
        have key1_ := Lib.hid key1_0
        clear key1_0
        refine wpAnyH_ready (rs := [6, 9]) (by kernel_rfl) (by simp) ?_
        refine callH (some 60) rfl rfl rfl 43 _ _ rfl (fun _ _ => by go_simp) #[fdV p o, nmV A3, nmV C3] (by kernel_rfl) ?_ (allocH (some 15) rfl rfl rfl 38 rfl (nmA (lb 0)) alloc_n (HSx.out.alloc _) ?_ AllReadyH.nil)
        · refine (Keb.out wd).mono ?_
          rintro e u ⟨rfl, hb⟩
          refine ⟨_, rfl, HSx.out.on hb, ?_⟩
          simp only [Act.put, List.setIfInBounds_toArray, List.set_cons_zero, List.set_cons_succ]
          exact key1_.out 0 _ (HSx.out.on hb)
        · simp only [Act.put, List.setIfInBounds_toArray, List.set_cons_zero, List.set_cons_succ]
          exact key0_0.out wd.heap.size _ ⟨HSx.out.alloc _, ⟨HSx.out.size, Cell.new _ _ _⟩⟩
      simp only [Act.put, List.setIfInBounds_toArray, List.set_cons_zero, List.set_cons_succ] at key2_00
      have key2_0 := Lib.hid key2_00
      clear key2_00
      refine meetH (fun (x : Nat) a => ((a.put (some 51) (nmV ea)).put (some 14) (.pointer (some ⟨x, 0, none⟩)))) #[true, true, true, true, true, true, true, true, false, true, false] 2 (fun (x : Nat) W => (Env w W n4 [(q13, (38, nmA (lb dd))), (q11, (38, nmA (lb aa))), (q12, (38, nmA (lb bb))), (q9, (38, nmA (lb sa))), (q10, (38, nmA (lb sb))), (q8, (40, fdA p o)), ((w.heap.size + 4), (62, fdA 0 0)), ((w.heap.size + 3), (62, fdA 0 0)), ((w.heap.size + 2), (62, fdA A3 C3)), ((w.heap.size + 1), (62, fdA A2 C2)), (w.heap.size, (42, ldA p o U))]) ∧ (n4 ≤ x ∧ Cell W x (38, nmA (lb 0)))) ?_ (fun key1_00 => ?_)
      · rintro q14 W ⟨hS, ⟨hn0, hc0⟩⟩
        simp only [Act.put, List.setIfInBounds_toArray, List.set_cons_zero, List.set_cons_succ]
        refine wpAnyH_ready (rs := [8]) (by kernel_rfl) (by simp) ?_
        refine callH (some 53) rfl rfl rfl 45 _ _ rfl (fun _ _ => by go_simp) #[fdV p o, nmV ea, nmV sa] (by kernel_rfl) ?_ AllReadyH.nil
        · refine (Kda.out W).mono ?_
          rintro e u ⟨rfl, hb⟩
          refine ⟨_, rfl, hS.on hb, ?_⟩
          simp only [Act.put, List.setIfInBounds_toArray, List.set_cons_zero, List.set_cons_succ]
          exact key2_0.out q14 _ ⟨hS.on hb, ⟨hn0, hc0.on hb⟩⟩
      simp only [Act.put, List.setIfInBounds_toArray, List.set_cons_zero, List.set_cons_succ] at key1_00
      have key1_0 := Lib.hid key1_00
      clear key1_00
      refine meetH (fun (x : Nat) a => ((a.put (some 51) (nmV ea)).put (some 53) (nmV da))) #[true, true, true, true, true, true, true, true, true, false, false] 2 (fun (_ : Nat) W => (Env w W n4 [(q13, (38, nmA (lb dd))), (q11, (38, nmA (lb aa))), (q12, (38, nmA (lb bb))), (q9, (38, nmA (lb sa))), (q10, (38, nmA (lb sb))), (q8, (40, fdA p o)), ((w.heap.size + 4), (62, fdA 0 0)), ((w.heap.size + 3), (62, fdA 0 0)), ((w.heap.size + 2), (62, fdA A3 C3)), ((w.heap.size + 1), (62, fdA A2 C2)), (w.heap.size, (42, ldA p o U))])) ?_ (fun key2_0 => ?_)
      · rintro q14 W hS
        simp only [Act.put, List.setIfInBounds_toArray, List.set_cons_zero, List.set_cons_succ]
        refine wpAnyH_ready (rs := [9]) (by kernel_rfl) (by simp) ?_
        refine allocH (some 14) rfl rfl rfl 38 rfl (nmA (lb 0)) alloc_n (hS.alloc _) ?_ AllReadyH.nil
        · simp only [Act.put, List.setIfInBounds_toArray, List.set_cons_zero, List.set_cons_succ]
          exact key2_0.out W.heap.size _ ⟨hS.alloc _, ⟨hS.size, Cell.new _ _ _⟩⟩
      simp only [Act.put, List.setIfInBounds_toArray, List.set_cons_zero, List.set_cons_succ] at key2_0
      have key2_ := Lib.hid key2_0
      clear key2_0
      refine meetH (fun (x : Nat) a => (a.put (some 14) (.pointer (some ⟨x, 0, none⟩)))) #[true, true, true, true, true, true, false, true, false, true, false] 3 (fun (x : Nat) W => (Env w W n4 [(q13, (38, nmA (lb dd))), (q11, (38, nmA (lb aa))), (q12, (38, nmA (lb bb))), (q9, (38, nmA (lb sa))), (q10, (38, nmA (lb sb))), (q8, (40, fdA p o)), ((w.heap.size + 4), (62, fdA 0 0)), ((w.heap.size + 3), (62, fdA 0 0)), ((w.heap.size + 2), (62, fdA A3 C3)), ((w.heap.size + 1), (62, fdA A2 C2)), (w.heap.size, (42, ldA p o U))]) ∧ (n4 ≤ x ∧ Cell W x (38, nmA (lb 0)))) ?_ (fun key0_00 => ?_)
      · rintro q14 W ⟨hS, ⟨hn0, hc0⟩⟩
        simp only [Act.put, List.setIfInBounds_toArray, List.set_cons_zero, List.set_cons_succ]
        refine wpAnyH_ready (rs := [6]) (by kernel_rfl) (by simp) ?_
        refine callH (some 51) rfl rfl rfl 44 _ _ rfl (fun _ _ => by go_simp) #[fdV p o, nmV A3, nmV C3] (by kernel_rfl) ?_ AllReadyH.nil
        · refine (Kea.out W).mono ?_
          rintro e u ⟨rfl, hb⟩
          refine ⟨_, rfl, hS.on hb, ?_⟩
          simp only [Act.put, List.setIfInBounds_toArray, List.set_cons_zero, List.set_cons_succ]
          exact key1_0.out q14 _ ⟨hS.on hb, ⟨hn0, hc0.on hb⟩⟩
      simp only [Act.put, List.setIfInBounds_toArray, List.set_cons_zero, List.set_cons_succ] at key0_00
      have key0_0 := Lib.hid key0_00
      clear key0_00
      refine meetH (fun (x : Nat) a => (a.put (some 51) (nmV ea))) #[true, true, true, true, true, true, true, true, false, false, false] 3 (fun (_ : Nat) W => (Env w W n4 [(q13, (38, nmA (lb dd))), (q11, (38, nmA (lb aa))), (q12, (38, nmA (lb bb))), (q9, (38, nmA (lb sa))), (q10, (38, nmA (lb sb))), (q8, (40, fdA p o)), ((w.heap.size + 4), (62, fdA 0 0)), ((w.heap.size + 3), (62, fdA 0 0)), ((w.heap.size + 2), (62, fdA A3 C3)), ((w.heap.size + 1), (62, fdA A2 C2)), (w.heap.size, (42, ldA p o U))])) ?_ (fun key1_0 => ?_)
      · rintro q14 W hS
        simp only [Act.put, List.setIfInBounds_toArray, List.set_cons_zero, List.set_cons_succ]
        refine wpAnyH_ready (rs := [8, 9]) (by kernel_rfl) (by simp) ?_
        refine callH (some 53) rfl rfl rfl 45 _ _ rfl (fun _ _ => by go_simp) #[fdV p o, nmV ea, nmV sa] (by kernel_rfl) ?_ (allocH (some 14) rfl rfl rfl 38 rfl (nmA (lb 0)) alloc_n (hS.alloc _) ?_ AllReadyH.nil)
        · refine (Kda.out W).mono ?_
          rintro e u ⟨rfl, hb⟩
          refine ⟨_, rfl, hS.on hb, ?_⟩
          simp only [Act.put, List.setIfInBounds_toArray, List.set_cons_zero, List.set_cons_succ]
          exact key2_.out 0 _ (hS.on hb)
        · simp only [Act.put, List.setIfInBounds_toArray, List.set_cons_zero, List.set_cons_succ]
          exact key1_0.out W.heap.size _ ⟨hS.alloc _, ⟨hS.size, Cell.new _ _ _⟩⟩
      simp only [Act.put, List.setIfInBounds_toArray, List.set_cons_zero, List.set_cons_succ] at key1_0
      have key1_ := Lib.hid key1_0
      clear key1_0
      refine wpAnyH_ready (rs := [6, 9]) (by kernel_rfl) (by simp) ?_
      refine callH (some 51) rfl rfl rfl 44 _ _ rfl (fun _ _ => by go_simp) #[fdV p o, nmV A3, nmV C3] (by kernel_rfl) ?_ (allocH (some 14) rfl rfl rfl 38 rfl (nmA (lb 0)) alloc_n (HSx.out.alloc _) ?_ AllReadyH.nil)
      · refine (Kea.out wd).mono ?_
        rintro e u ⟨rfl, hb⟩
        refine ⟨_, rfl, HSx.out.on hb, ?_⟩
        simp only [Act.put, List.setIfInBounds_toArray, List.set_cons_zero, List.set_cons_succ]
        exact key1_.out 0 _ (HSx.out.on hb)
      · simp only [Act.put, List.setIfInBounds_toArray, List.set_cons_zero, List.set_cons_succ]
        exact key0_0.out wd.heap.size _ ⟨HSx.out.alloc _, ⟨HSx.out.size, Cell.new _ _ _⟩⟩
    simp only [Act.put, List.setIfInBounds_toArray, List.set_cons_zero, List.set_cons_succ] at key2_010
    have key2_01 := Lib.hid key2_010
    clear key2_010
    refine meetH (fun (x : Nat × Nat) a => (((a.put (some 36) (nmV aa)).put (some 11) (.pointer (some ⟨x.1, 0, none⟩))).put (some 12) (.pointer (some ⟨x.2, 0, none⟩)))) #[true, true, true, true, true, true, true, false, true, true, false, false] 3 (fun (x : Nat × Nat) W => (Env w W n2 [(q9, (38, nmA (lb sa))), (q10, (38, nmA (lb sb))), (q8, (40, fdA p o)), ((w.heap.size + 4), (62, fdA 0 0)), ((w.heap.size + 3), (62, fdA 0 0)), ((w.heap.size + 2), (62, fdA A3 C3)), ((w.heap.size + 1), (62, fdA A2 C2)), (w.heap.size, (42, ldA p o U))]) ∧ (n2 ≤ x.1 ∧ Cell W x.1 (38, nmA (lb 0))) ∧ (n2 ≤ x.2 ∧ Cell W x.2 (38, nmA (lb 0))) ∧ (¬ x.1 = x.2)) ?_ (fun key1_010 => ?_)
    · rintro ⟨q11, q12⟩ W ⟨hS, ⟨hn0, hc0⟩, ⟨hn1, hc1⟩, hd01⟩
      simp only [Act.put, List.setIfInBounds_toArray, List.set_cons_zero, List.set_cons_succ]
      refine wpAnyH_ready (rs := [7]) (by kernel_rfl) (by simp) ?_
      refine callH (some 40) rfl rfl rfl 45 _ _ rfl (fun _ _ => by go_simp) #[fdV p o, nmV sb, nmV sb] (by kernel_rfl) ?_ AllReadyH.nil
      · refine (Kbb.out W).mono ?_
        rintro e u ⟨rfl, hb⟩
        refine ⟨_, rfl, hS.on hb, ?_⟩
        simp only [Act.put, List.setIfInBounds_toArray, List.set_cons_zero, List.set_cons_succ]
        exact key2_01.out (q11, q12) _ ⟨hS.on hb, ⟨hn0, hc0.on hb⟩, ⟨hn1, hc1.on hb⟩, hd01⟩
    simp only [Act.put, List.setIfInBounds_toArray, List.set_cons_zero, List.set_cons_succ] at key1_010
    have key1_01 := Lib.hid key1_010
    clear key1_010
    refine meetH (fun (x : Nat × Nat) a => (((a.put (some 36) (nmV aa)).put (some 40) (nmV bb)).put (some 11) (.pointer (some ⟨x.1, 0, none⟩)))) #[true, true, true, true, true, true, true, true, true, false, false, false] 3 (fun (x : Nat × Nat) W => (Env w W n2 [(q9, (38, nmA (lb sa))), (q10, (38, nmA (lb sb))), (q8, (40, fdA p o)), ((w.heap.size + 4), (62, fdA 0 0)), ((w.heap.size + 3), (62, fdA 0 0)), ((w.heap.size + 2), (62, fdA A3 C3)), ((w.heap.size + 1), (62, fdA A2 C2)), (w.heap.size, (42, ldA p o U))]) ∧ (n2 ≤ x.1 ∧ Cell W x.1 (38, nmA (lb 0)))) ?_ (fun key2_00 => ?_)
    · rintro ⟨q11, q12⟩ W ⟨hS, ⟨hn0, hc0⟩⟩
      simp only [Act.put, List.setIfInBounds_toArray, List.set_cons_zero, List.set_cons_succ]
      refine wpAnyH_ready (rs := [9]) (by kernel_rfl) (by simp) ?_
      refine allocH (some 12) rfl rfl rfl 38 rfl (nmA (lb 0)) alloc_n (hS.alloc _) ?_ AllReadyH.nil
      · simp only [Act.put, List.setIfInBounds_toArray, List.set_cons_zero, List.set_cons_succ]
        exact key2_01.out (q11, W.heap.size) _ ⟨hS.alloc _, ⟨hn0, hc0.alloc _⟩, ⟨hS.size, Cell.new _ _ _⟩, (fun (e : q11 = W.heap.size) => by have h : q11 < W.heap.size := hc0.lt; omega)⟩
    simp only [Act.put, List.setIfInBounds_toArray, List.set_cons_zero, List.set_cons_succ] at key2_00
    have key2_0 := Lib.hid key2_00
    clear key2_00
    refine meetH (fun (x : Nat × Nat) a => (((a.put (some 36) (nmV aa)).put (some 40) (nmV bb)).put (some 12) (.pointer (some ⟨x.2, 0, none⟩)))) #[true, true, true, true, true, true, true, true, false, true, false, false] 3 (fun (x : Nat × Nat) W => (Env w W n2 [(q9, (38, nmA (lb sa))), (q10, (38, nmA (lb sb))), (q8, (40, fdA p o)), ((w.heap.size + 4), (62, fdA 0 0)), ((w.heap.size + 3), (62, fdA 0 0)), ((w.heap.size + 2), (62, fdA A3 C3)), ((w.heap.size + 1), (62, fdA A2 C2)), (w.heap.size, (42, ldA p o U))]) ∧ (n2 ≤ x.2 ∧ Cell W x.2 (38, nmA (lb 0)))) ?_ (fun key2_10 => ?_)
    · rintro ⟨q11, q12⟩ W ⟨hS, ⟨hn1, hc1⟩⟩
      simp only [Act.put, List.setIfInBounds_toArray, List.set_cons_zero, List.set_cons_succ]
      refine wpAnyH_ready (rs := [8]) (by kernel_rfl) (by simp) ?_
      refine allocH (some 11) rfl rfl rfl 38 rfl (nmA (lb 0)) alloc_n (hS.alloc _) ?_ AllReadyH.nil
      · simp only [Act.put, List.setIfInBounds_toArray, List.set_cons_zero, List.set_cons_succ]
        exact key2_01.out (W.heap.size, q12) _ ⟨hS.alloc _, ⟨hS.size, Cell.new _ _ _⟩, ⟨hn1, hc1.alloc _⟩, (fun (e : W.heap.size = q12) => by have h : q12 < W.heap.size := hc1.lt; omega)⟩
    simp only [Act.put, List.setIfInBounds_toArray, List.set_cons_zero, List.set_cons_succ] at key2_10
    have key2_1 := Lib.hid key2_10
    clear key2_10
    refine meetH (fun (x : Nat × Nat) a => ((a.put (some 11) (.pointer (some ⟨x.1, 0, none⟩))).put (some 12) (.pointer (some ⟨x.2, 0, none⟩)))) #[true, true, true, false, true, true, true, false, true, true, false, false] 4 (fun (x : Nat × Nat) W => (Env w W n2 [(q9, (38, nmA (lb sa))), (q10, (38, nmA (lb sb))), (q8, (40, fdA p o)), ((w.heap.size + 4), (62, fdA 0 0)), ((w.heap.size + 3), (62, fdA 0 0)), ((w.heap.size + 2), (62, fdA A3 C3)), ((w.heap.size + 1), (62, fdA A2 C2)), (w.heap.size, (42, ldA p o U))]) ∧ (n2 ≤ x.1 ∧ Cell W x.1 (38, nmA (lb 0))) ∧ (n2 ≤ x.2 ∧ Cell W x.2 (38, nmA (lb 0))) ∧ (¬ x.1 = x.2)) ?_ (fun key0_010 => ?_)
    · rintro ⟨q11, q12⟩ W ⟨hS, ⟨hn0, hc0⟩, ⟨hn1, hc1⟩, hd01⟩
      simp only [Act.put, List.setIfInBounds_toArray, List.set_cons_zero, List.set_cons_succ]
      refine wpAnyH_ready (rs := [3]) (by kernel_rfl) (by simp) ?_
      refine callH (some 36) rfl rfl rfl 45 _ _ rfl (fun _ _ => by go_simp) #[fdV p o, nmV sa, nmV sa] (by kernel_rfl) ?_ AllReadyH.nil
      · refine (Kaa.out W).mono ?_
        rintro e u ⟨rfl, hb⟩
        refine ⟨_, rfl, hS.on hb, ?_⟩
        simp only [Act.put, List.setIfInBounds_toArray, List.set_cons_zero, List.set_cons_succ]
        exact key1_01.out (q11, q12) _ ⟨hS.on hb, ⟨hn0, hc0.on hb⟩, ⟨hn1, hc1.on hb⟩, hd01⟩
    simp only [Act.put, List.setIfInBounds_toArray, List.set_cons_zero, List.set_cons_succ] at key0_010
    have key0_01 := Lib.hid key0_010
    clear key0_010
    refine meetH (fun (x : Nat × Nat) a => ((a.put (some 36) (nmV aa)).put (some 11) (.pointer (some ⟨x.1, 0, none⟩)))) #[true, true, true, true, true, true, true, false, true, false, false, false] 4 (fun (x : Nat × Nat) W => (Env w W n2 [(q9, (38, nmA (lb sa))), (q10, (38, nmA (lb sb))), (q8, (40, fdA p o)), ((w.heap.size + 4), (62, fdA 0 0)), ((w.heap.size + 3), (62, fdA 0 0)), ((w.heap.size + 2), (62, fdA A3 C3)), ((w.heap.size + 1), (62, fdA A2 C2)), (w.heap.size, (42, ldA p o U))]) ∧ (n2 ≤ x.1 ∧ Cell W x.1 (38, nmA (lb 0)))) ?_ (fun key1_00 => ?_)
    · rintro ⟨q11, q12⟩ W ⟨hS, ⟨hn0, hc0⟩⟩
      simp only [Act.put, List.setIfInBounds_toArray, List.set_cons_zero, List.set_cons_succ]
      refine wpAnyH_ready (rs := [7, 9]) (by kernel_rfl) (by simp) ?_
      refine callH (some 40) rfl rfl rfl 45 _ _ rfl (fun _ _ => by go_simp) #[fdV p o, nmV sb, nmV sb] (by kernel_rfl) ?_ (allocH (some 12) rfl rfl rfl 38 rfl (nmA (lb 0)) alloc_n (hS.alloc _) ?_ AllReadyH.nil)
      · refine (Kbb.out W).mono ?_
        rintro e u ⟨rfl, hb⟩
        refine ⟨_, rfl, hS.on hb, ?_⟩
        simp only [Act.put, List.setIfInBounds_toArray, List.set_cons_zero, List.set_cons_succ]
        exact key2_0.out (q11, 0) _ ⟨hS.on hb, ⟨hn0, hc0.on hb⟩⟩
      · simp only [Act.put, List.setIfInBounds_toArray, List.set_cons_zero, List.set_cons_succ]
        exact key1_01.out (q11, W.heap.size) _ ⟨hS.alloc _, ⟨hn0, hc0.alloc _⟩, ⟨hS.size, Cell.new _ _ _⟩, (fun (e : q11 = W.heap.size) => by have h : q11 < W.heap.size := hc0.lt; omega)⟩
    simp only [Act.put, List.setIfInBounds_toArray, List.set_cons_zero, List.set_cons_succ] at key1_00
    have key1_0 := Lib.hid key1_00
    clear key1_00
    refine meetH (fun (x : Nat × Nat) a => ((a.put (some 36) (nmV aa)).put (some 12) (.pointer (some ⟨x.2, 0, none⟩)))) #[true, true, true, true, true, true, true, false, false, true, false, false] 4 (fun (x : Nat × Nat) W => (Env w W n2 [(q9, (38, nmA (lb sa))), (q10, (38, nmA (lb sb))), (q8, (40, fdA p o)), ((w.heap.size + 4), (62, fdA 0 0)), ((w.heap.size + 3), (62, fdA 0 0)), ((w.heap.size + 2), (62, fdA A3 C3)), ((w.heap.size + 1), (62, fdA A2 C2)), (w.heap.size, (42, ldA p o U))]) ∧ (n2 ≤ x.2 ∧ Cell W x.2 (38, nmA (lb 0)))) ?_ (fun key1_10 => ?_)
    · rintro ⟨q11, q12⟩ W ⟨hS, ⟨hn1, hc1⟩⟩
      simp only [Act.put, List.setIfInBounds_toArray, List.set_cons_zero, List.set_cons_succ]
      refine wpAnyH_ready (rs := [7, 8]) (by kernel_rfl) (by simp) ?_
      refine callH (some 40) rfl rfl rfl 45 _ _ rfl (fun _ _ => by go_simp) #[fdV p o, nmV sb, nmV sb] (by kernel_rfl) ?_ (allocH (some 11) rfl rfl rfl 38 rfl (nmA (lb 0)) alloc_n (hS.alloc _) ?_ AllReadyH.nil)
      · refine (Kbb.out W).mono ?_
        rintro e u ⟨rfl, hb⟩
        refine ⟨_, rfl, hS.on hb, ?_⟩
        simp only [Act.put, List.setIfInBounds_toArray, List.set_cons_zero, List.set_cons_succ]
        exact key2_1.out (0, q12) _ ⟨hS.on hb, ⟨hn1, hc1.on hb⟩⟩
      · simp only [Act.put, List.setIfInBounds_toArray, List.set_cons_zero, List.set_cons_succ]
        exact key1_01.out (W.heap.size, q12) _ ⟨hS.alloc _, ⟨hS.size, Cell.new _ _ _⟩, ⟨hn1, hc1.alloc _⟩, (fun (e : W.heap.size = q12) => by have h : q12 < W.heap.size := hc1.lt; omega)⟩
    simp only [Act.put, List.setIfInBounds_toArray, List.set_cons_zero, List.set_cons_succ] at key1_10
    have key1_1 := Lib.hid key1_10
    clear key1_10
    refine meetH (fun (x : Nat × Nat) a => ((a.put (some 36) (nmV aa)).put (some 40) (nmV bb))) #[true, true, true, true, true, true, true, true, false, false, false, false] 4 (fun (_ : Nat × Nat) W => (Env w W n2 [(q9, (38, nmA (lb sa))), (q10, (38, nmA (lb sb))), (q8, (40, fdA p o)), ((w.heap.size + 4), (62, fdA 0 0)), ((w.heap.size + 3), (62, fdA 0 0)), ((w.heap.size + 2), (62, fdA A3 C3)), ((w.heap.size + 1), (62, fdA A2 C2)), (w.heap.size, (42, ldA p o U))])) ?_ (fun key2_0 => ?_)
    · rintro ⟨q11, q12⟩ W hS
      simp only [Act.put, List.setIfInBounds_toArray, List.set_cons_zero, List.set_cons_succ]
      refine wpAnyH_ready (rs := [8, 9]) (by kernel_rfl) (by simp) ?_
      refine allocH (some 11) rfl rfl rfl 38 rfl (nmA (lb 0)) alloc_n (hS.alloc _) ?_ (allocH (some 12) rfl rfl rfl 38 rfl (nmA (lb 0)) alloc_n (hS.alloc _) ?_ AllReadyH.nil)
      · simp only [Act.put, List.setIfInBounds_toArray, List.set_cons_zero, List.set_cons_succ]
        exact key2_0.out (W.heap.size, 0) _ ⟨hS.alloc _, ⟨hS.size, Cell.new _ _ _⟩⟩
      · simp only [Act.put, List.setIfInBounds_toArray, List.set_cons_zero, List.set_cons_succ]
        exact key2_1.out (0, W.heap.size) _ ⟨hS.alloc _, ⟨hS.size, Cell.new _ _ _⟩⟩
    simp only [Act.put, List.setIfInBounds_toArray, List.set_cons_zero, List.set_cons_succ] at key2_0
    have key2_ := Lib.hid key2_0
    clear key2_0
    refine meetH (fun (x : Nat × Nat) a => (a.put (some 11) (.pointer (some ⟨x.1, 0, none⟩)))) #[true, true, true, false, true, true, true, false, true, false, false, false] 5 (fun (x : Nat × Nat) W => (Env w W n2 [(q9, (38, nmA (lb sa))), (q10, (38, nmA (lb sb))), (q8, (40, fdA p o)), ((w.heap.size + 4), (62, fdA 0 0)), ((w.heap.size + 3), (62, fdA 0 0)), ((w.heap.size + 2), (62, fdA A3 C3)), ((w.heap.size + 1), (62, fdA A2 C2)), (w.heap.size, (42, ldA p o U))]) ∧ (n2 ≤ x.1 ∧ Cell W x.1 (38, nmA (lb 0)))) ?_ (fun key0_00 => ?_)
    · rintro ⟨q11, q12⟩ W ⟨hS, ⟨hn0, hc0⟩⟩
      simp only [Act.put, List.setIfInBounds_toArray, List.set_cons_zero, List.set_cons_succ]
      refine wpAnyH_ready (rs := [3, 9]) (by kernel_rfl) (by simp) ?_
      refine callH (some 36) rfl rfl rfl 45 _ _ rfl (fun _ _ => by go_simp) #[fdV p o, nmV sa, nmV sa] (by kernel_rfl) ?_ (allocH (some 12) rfl rfl rfl 38 rfl (nmA (lb 0)) alloc_n (hS.alloc _) ?_ AllReadyH.nil)
      · refine (Kaa.out W).mono ?_
        rintro e u ⟨rfl, hb⟩
        refine ⟨_, rfl, hS.on hb, ?_⟩
        simp only [Act.put, List.setIfInBounds_toArray, List.set_cons_zero, List.set_cons_succ]
        exact key1_0.out (q11, 0) _ ⟨hS.on hb, ⟨hn0, hc0.on hb⟩⟩
      · simp only [Act.put, List.setIfInBounds_toArray, List.set_cons_zero, List.set_cons_succ]
        exact key0_01.out (q11, W.heap.size) _ ⟨hS.alloc _, ⟨hn0, hc0.alloc _⟩, ⟨hS.size, Cell.new _ _ _⟩, (fun (e : q11 = W.heap.size) => by have h : q11 < W.heap.size := hc0.lt; omega)⟩
    simp only [Act.put, List.setIfInBounds_toArray, List.set_cons_zero, List.set_cons_succ] at key0_00
    have key0_0 := Lib.hid key0_00
    clear key0_00
    refine meetH (fun (x : Nat × Nat) a => (a.put (some 12) (.pointer (some ⟨x.2, 0, none⟩)))) #[true, true, true, false, true, true, true, false, false, true, false, false] 5 (fun (x : Nat × Nat) W => (Env w W n2 [(q9, (38, nmA (lb sa))), (q10, (38, nmA (lb sb))), (q8, (40, fdA p o)), ((w.heap.size + 4), (62, fdA 0 0)), ((w.heap.size + 3), (62, fdA 0 0)), ((w.heap.size + 2), (62, fdA A3 C3)), ((w.heap.size + 1), (62, fdA A2 C2)), (w.heap.size, (42, ldA p o U))]) ∧ (n2 ≤ x.2 ∧ Cell W x.2 (38, nmA (lb 0)))) ?_ (fun key0_10 => ?_)
    · rintro ⟨q11, q12⟩ W ⟨hS, ⟨hn1, hc1⟩⟩
      simp only [Act.put, List.setIfInBounds_toArray, List.set_cons_zero, List.set_cons_succ]
      refine wpAnyH_ready (rs := [3, 8]) (by kernel_rfl) (by simp) ?_
      refine callH (some 36) rfl rfl rfl 45 _ _ rfl (fun _ _ => by go_simp) #[fdV p o, nmV sa, nmV sa] (by kernel_rfl) ?_ (allocH (some 11) rfl rfl rfl 38 rfl (nmA (lb 0)) alloc_n (hS.alloc _) ?_ AllReadyH.nil)
      · refine (Kaa.out W).mono ?_
        rintro e u ⟨rfl, hb⟩
        refine ⟨_, rfl, hS.on hb, ?_⟩
        simp only [Act.put, List.setIfInBounds_toArray, List.set_cons_zero, List.set_cons_succ]
        exact key1_1.out (0, q12) _ ⟨hS.on hb, ⟨hn1, hc1.on hb⟩⟩
      · simp only [Act.put, List.setIfInBounds_toArray, List.set_cons_zero, List.set_cons_succ]
        exact key0_01.out (W.heap.size, q12) _ ⟨hS.alloc _, ⟨hS.size, Cell.new _ _ _⟩, ⟨hn1, hc1.alloc _⟩, (fun (e : W.heap.size = q12) => by have h : q12 < W.heap.size := hc1.lt; omega)⟩
    simp only [Act.put, List.setIfInBounds_toArray, List.set_cons_zero, List.set_cons_succ] at key0_10
    have key0_1 := Lib.hid key0_10
    clear key0_10
    refine meetH (fun (x : Nat × Nat) a => (a.put (some 36) (nmV aa))) #[true, true, true, true, true, true, true, false, false, false, false, false] 5 (fun (_ : Nat × Nat) W => (Env w W n2 [(q9, (38, nmA (lb sa))), (q10, (38, nmA (lb sb))), (q8, (40, fdA p o)), ((w.heap.size + 4), (62, fdA 0 0)), ((w.heap.size + 3), (62, fdA 0 0)), ((w.heap.size + 2), (62, fdA A3 C3)), ((w.heap.size + 1), (62, fdA A2 C2)), (w.heap.size, (42, ldA p o U))])) ?_ (fun key1_0 => ?_)
    · rintro ⟨q11, q12⟩ W hS
      simp only [Act.put, List.setIfInBounds_toArray, List.set_cons_zero, List.set_cons_succ]
      refine wpAnyH_ready (rs := [7, 8, 9]) (by kernel_rfl) (by simp) ?_
      refine callH (some 40) rfl rfl rfl 45 _ _ rfl (fun _ _ => by go_simp) #[fdV p o, nmV sb, nmV sb] (by kernel_rfl) ?_ (allocH (some 11) rfl rfl rfl 38 rfl (nmA (lb 0)) alloc_n (hS.alloc _) ?_ (allocH (some 12) rfl rfl rfl 38 rfl (nmA (lb 0)) alloc_n (hS.alloc _) ?_ AllReadyH.nil))
      · refine (Kbb.out W).mono ?_
        rintro e u ⟨rfl, hb⟩
        refine ⟨_, rfl, hS.on hb, ?_⟩
        simp only [Act.put, List.setIfInBounds_toArray, List.set_cons_zero, List.set_cons_succ]
        exact key2_.out (0, 0) _ (hS.on hb)
      · simp only [Act.put, List.setIfInBounds_toArray, List.set_cons_zero, List.set_cons_succ]
        exact key1_0.out (W.heap.size, 0) _ ⟨hS.alloc _, ⟨hS.size, Cell.new _ _ _⟩⟩
      · simp only [Act.put, List.setIfInBounds_toArray, List.set_cons_zero, List.set_cons_succ]
        exact key1_1.out (0, W.heap.size) _ ⟨hS.alloc _, ⟨hS.size, Cell.new _ _ _⟩⟩
    simp only [Act.put, List.setIfInBounds_toArray, List.set_cons_zero, List.set_cons_succ] at key1_0
    have key1_ := Lib.hid key1_0
    clear key1_0
    refine wpAnyH_ready (rs := [3, 8, 9]) (by kernel_rfl) (by simp) ?_
    refine callH (some 36) rfl rfl rfl 45 _ _ rfl (fun _ _ => by go_simp) #[fdV p o, nmV sa, nmV sa] (by kernel_rfl) ?_ (allocH (some 11) rfl rfl rfl 38 rfl (nmA (lb 0)) alloc_n (HSx.out.alloc _) ?_ (allocH (some 12) rfl rfl rfl 38 rfl (nmA (lb 0)) alloc_n (HSx.out.alloc _) ?_ AllReadyH.nil))
    · refine (Kaa.out wd).mono ?_
      rintro e u ⟨rfl, hb⟩
      refine ⟨_, rfl, HSx.out.on hb, ?_⟩
      simp only [Act.put, List.setIfInBounds_toArray, List.set_cons_zero, List.set_cons_succ]
      exact key1_.out (0, 0) _ (HSx.out.on hb)
    · simp only [Act.put, List.setIfInBounds_toArray, List.set_cons_zero, List.set_cons_succ]
      exact key0_0.out (wd.heap.size, 0) _ ⟨HSx.out.alloc _, ⟨HSx.out.size, Cell.new _ _ _⟩⟩
    · simp only [Act.put, List.setIfInBounds_toArray, List.set_cons_zero, List.set_cons_succ]
      exact key0_1.out (0, wd.heap.size) _ ⟨HSx.out.alloc _, ⟨HSx.out.size, Cell.new _ _ _⟩⟩
  simp only [Act.put, List.setIfInBounds_toArray, List.set_cons_zero, List.set_cons_succ] at key2_010
  have key2_01 := Lib.hid key2_010
  clear key2_010
  refine meetH (fun (x : Nat × Nat) a => (((a.put (some 26) (nmV sa)).put (some 9) (.pointer (some ⟨x.1, 0, none⟩))).put (some 10) (.pointer (some ⟨x.2, 0, none⟩)))) #[true, true, true, true, true, true, true, true, true, true, true, false, true, true, false, false] 3 (fun (x : Nat × Nat) W => (Env w W n1 [(q8, (40, fdA p o)), ((w.heap.size + 4), (62, fdA 0 0)), ((w.heap.size + 3), (62, fdA 0 0)), ((w.heap.size + 2), (62, fdA A3 C3)), ((w.heap.size + 1), (62, fdA A2 C2)), (w.heap.size, (42, ldA p o U))]) ∧ (n1 ≤ x.1 ∧ Cell W x.1 (38, nmA (lb 0))) ∧ (n1 ≤ x.2 ∧ Cell W x.2 (38, nmA (lb 0))) ∧ (¬ x.1 = x.2)) ?_ (fun key1_010 => ?_)
  · rintro ⟨q9, q10⟩ W ⟨hS, ⟨hn0, hc0⟩, ⟨hn1, hc1⟩, hd01⟩
    simp only [Act.put, List.setIfInBounds_toArray, List.set_cons_zero, List.set_cons_succ]
    refine wpAnyH_ready (rs := [11]) (by kernel_rfl) (by simp) ?_
    refine callH (some 32) rfl rfl rfl 44 _ _ rfl (fun _ _ => by go_simp) #[fdV p o, nmV A2, nmV C2] (by kernel_rfl) ?_ AllReadyH.nil
    · refine (Ksb.out W).mono ?_
      rintro e u ⟨rfl, hb⟩
      refine ⟨_, rfl, hS.on hb, ?_⟩
      simp only [Act.put, List.setIfInBounds_toArray, List.set_cons_zero, List.set_cons_succ]
      exact key2_01.out (q9, q10) _ ⟨hS.on hb, ⟨hn0, hc0.on hb⟩, ⟨hn1, hc1.on hb⟩, hd01⟩
  simp only [Act.put, List.setIfInBounds_toArray, List.set_cons_zero, List.set_cons_succ] at key1_010
  have key1_01 := Lib.hid key1_010
  clear key1_010
  refine meetH (fun (x : Nat × Nat) a => (((a.put (some 26) (nmV sa)).put (some 32) (nmV sb)).put (some 9) (.pointer (some ⟨x.1, 0, none⟩)))) #[true, true, true, true, true, true, true, true, true, true, true, true, true, false, false, false] 3 (fun (x : Nat × Nat) W => (Env w W n1 [(q8, (40, fdA p o)), ((w.heap.size + 4), (62, fdA 0 0)), ((w.heap.size + 3), (62, fdA 0 0)), ((w.heap.size + 2), (62, fdA A3 C3)), ((w.heap.size + 1), (62, fdA A2 C2)), (w.heap.size, (42, ldA p o U))]) ∧ (n1 ≤ x.1 ∧ Cell W x.1 (38, nmA (lb 0)))) ?_ (fun key2_00 => ?_)
  · rintro ⟨q9, q10⟩ W ⟨hS, ⟨hn0, hc0⟩⟩
    simp only [Act.put, List.setIfInBounds_toArray, List.set_cons_zero, List.set_cons_succ]
    refine wpAnyH_ready (rs := [13]) (by kernel_rfl) (by simp) ?_
    refine allocH (some 10) rfl rfl rfl 38 rfl (nmA (lb 0)) alloc_n (hS.alloc _) ?_ AllReadyH.nil
    · simp only [Act.put, List.setIfInBounds_toArray, List.set_cons_zero, List.set_cons_succ]
      exact key2_01.out (q9, W.heap.size) _ ⟨hS.alloc _, ⟨hn0, hc0.alloc _⟩, ⟨hS.size, Cell.new _ _ _⟩, (fun (e : q9 = W.heap.size) => by have h : q9 < W.heap.size := hc0.lt; omega)⟩
  simp only [Act.put, List.setIfInBounds_toArray, List.set_cons_zero, List.set_cons_succ] at key2_00
  have key2_0 := Lib.hid key2_00
  clear key2_00
  refine meetH (fun (x : Nat × Nat) a => (((a.put (some 26) (nmV sa)).put (some 32) (nmV sb)).put (some 10) (.pointer (some ⟨x.2, 0, none⟩)))) #[true, true, true, true, true, true, true, true, true, true, true, true, false, true, false, false] 3 (fun (x : Nat × Nat) W => (Env w W n1 [(q8, (40, fdA p o)), ((w.heap.size + 4), (62, fdA 0 0)), ((w.heap.size + 3), (62, fdA 0 0)), ((w.heap.size + 2), (62, fdA A3 C3)), ((w.heap.size + 1), (62, fdA A2 C2)), (w.heap.size, (42, ldA p o U))]) ∧ (n1 ≤ x.2 ∧ Cell W x.2 (38, nmA (lb 0)))) ?_ (fun key2_10 => ?_)
  · rintro ⟨q9, q10⟩ W ⟨hS, ⟨hn1, hc1⟩⟩
    simp only [Act.put, List.setIfInBounds_toArray, List.set_cons_zero, List.set_cons_succ]
    refine wpAnyH_ready (rs := [12]) (by kernel_rfl) (by simp) ?_
    refine allocH (some 9) rfl rfl rfl 38 rfl (nmA (lb 0)) alloc_n (hS.alloc _) ?_ AllReadyH.nil
    · simp only [Act.put, List.setIfInBounds_toArray, List.set_cons_zero, List.set_cons_succ]
      exact key2_01.out (W.heap.size, q10) _ ⟨hS.alloc _, ⟨hS.size, Cell.new _ _ _⟩, ⟨hn1, hc1.alloc _⟩, (fun (e : W.heap.size = q10) => by have h : q10 < W.heap.size := hc1.lt; omega)⟩
  simp only [Act.put, List.setIfInBounds_toArray, List.set_cons_zero, List.set_cons_succ] at key2_10
  have key2_1 := Lib.hid key2_10
  clear key2_10
  refine meetH (fun (x : Nat × Nat) a => ((a.put (some 9) (.pointer (some ⟨x.1, 0, none⟩))).put (some 10) (.pointer (some ⟨x.2, 0, none⟩)))) #[true, true, true, true, true, false, true, true, true, true, true, false, true, true, false, false] 4 (fun (x : Nat × Nat) W => (Env w W n1 [(q8, (40, fdA p o)), ((w.heap.size + 4), (62, fdA 0 0)), ((w.heap.size + 3), (62, fdA 0 0)), ((w.heap.size + 2), (62, fdA A3 C3)), ((w.heap.size + 1), (62, fdA A2 C2)), (w.heap.size, (42, ldA p o U))]) ∧ (n1 ≤ x.1 ∧ Cell W x.1 (38, nmA (lb 0))) ∧ (n1 ≤ x.2 ∧ Cell W x.2 (38, nmA (lb 0))) ∧ (¬ x.1 = x.2)) ?_ (fun key0_010 => ?_)
  · rintro ⟨q9, q10⟩ W ⟨hS, ⟨hn0, hc0⟩, ⟨hn1, hc1⟩, hd01⟩
    simp only [Act.put, List.setIfInBounds_toArray, List.set_cons_zero, List.set_cons_succ]
    refine wpAnyH_ready (rs := [5]) (by kernel_rfl) (by simp) ?_
    refine callH (some 26) rfl rfl rfl 43 _ _ rfl (fun _ _ => by go_simp) #[fdV p o, nmV A2, nmV C2] (by kernel_rfl) ?_ AllReadyH.nil
    · refine (Ksa.out W).mono ?_
      rintro e u ⟨rfl, hb⟩
      refine ⟨_, rfl, hS.on hb, ?_⟩
      simp only [Act.put, List.setIfInBounds_toArray, List.set_cons_zero, List.set_cons_succ]
      exact key1_01.out (q9, q10) _ ⟨hS.on hb, ⟨hn0, hc0.on hb⟩, ⟨hn1, hc1.on hb⟩, hd01⟩
  simp only [Act.put, List.setIfInBounds_toArray, List.set_cons_zero, List.set_cons_succ] at key0_010
  have key0_01 := Lib.hid key0_010
  clear key0_010
  refine meetH (fun (x : Nat × Nat) a => ((a.put (some 26) (nmV sa)).put (some 9) (.pointer (some ⟨x.1, 0, none⟩)))) #[true, true, true, true, true, true, true, true, true, true, true, false, true, false, false, false] 4 (fun (x : Nat × Nat) W => (Env w W n1 [(q8, (40, fdA p o)), ((w.heap.size + 4), (62, fdA 0 0)), ((w.heap.size + 3), (62, fdA 0 0)), ((w.heap.size + 2), (62, fdA A3 C3)), ((w.heap.size + 1), (62, fdA A2 C2)), (w.heap.size, (42, ldA p o U))]) ∧ (n1 ≤ x.1 ∧ Cell W x.1 (38, nmA (lb 0)))) ?_ (fun key1_00 => ?_)
  · rintro ⟨q9, q10⟩ W ⟨hS, ⟨hn0, hc0⟩⟩
    simp only [Act.put, List.setIfInBounds_toArray, List.set_cons_zero, List.set_cons_succ]
    refine wpAnyH_ready (rs := [11, 13]) (by kernel_rfl) (by simp) ?_
    refine callH (some 32) rfl rfl rfl 44 _ _ rfl (fun _ _ => by go_simp) #[fdV p o, nmV A2, nmV C2] (by kernel_rfl) ?_ (allocH (some 10) rfl rfl rfl 38 rfl (nmA (lb 0)) alloc_n (hS.alloc _) ?_ AllReadyH.nil)
    · refine (Ksb.out W).mono ?_
      rintro e u ⟨rfl, hb⟩
      refine ⟨_, rfl, hS.on hb, ?_⟩
      simp only [Act.put, List.setIfInBounds_toArray, List.set_cons_zero, List.set_cons_succ]
      exact key2_0.out (q9, 0) _ ⟨hS.on hb, ⟨hn0, hc0.on hb⟩⟩
    · simp only [Act.put, List.setIfInBounds_toArray, List.set_cons_zero, List.set_cons_succ]
      exact key1_01.out (q9, W.heap.size) _ ⟨hS.alloc _, ⟨hn0, hc0.alloc _⟩, ⟨hS.size, Cell.new _ _ _⟩, (fun (e : q9 = W.heap.size) => by have h : q9 < W.heap.size := hc0.lt; omega)⟩
  simp only [Act.put, List.setIfInBounds_toArray, List.set_cons_zero, List.set_cons_succ] at key1_00
  have key1_0 := Lib.hid key1_00
  clear key1_00
  refine meetH (fun (x : Nat × Nat) a => ((a.put (some 26) (nmV sa)).put (some 10) (.pointer (some ⟨x.2, 0, none⟩)))) #[true, true, true, true, true, true, true, true, true, true, true, false, false, true, false, false] 4 (fun (x : Nat × Nat) W => (Env w W n1 [(q8, (40, fdA p o)), ((w.heap.size + 4), (62, fdA 0 0)), ((w.heap.size + 3), (62, fdA 0 0)), ((w.heap.size + 2), (62, fdA A3 C3)), ((w.heap.size + 1), (62, fdA A2 C2)), (w.heap.size, (42, ldA p o U))]) ∧ (n1 ≤ x.2 ∧ Cell W x.2 (38, nmA (lb 0)))) ?_ (fun key1_10 => ?_)
  · rintro ⟨q9, q10⟩ W ⟨hS, ⟨hn1, hc1⟩⟩
    simp only [Act.put, List.setIfInBounds_toArray, List.set_cons_zero, List.set_cons_succ]
    refine wpAnyH_ready (rs := [11, 12]) (by kernel_rfl) (by simp) ?_
    refine callH (some 32) rfl rfl rfl 44 _ _ rfl (fun _ _ => by go_simp) #[fdV p o, nmV A2, nmV C2] (by kernel_rfl) ?_ (allocH (some 9) rfl rfl rfl 38 rfl (nmA (lb 0)) alloc_n (hS.alloc _) ?_ AllReadyH.nil)
    · refine (Ksb.out W).mono ?_
      rintro e u ⟨rfl, hb⟩
      refine ⟨_, rfl, hS.on hb, ?_⟩
      simp only [Act.put, List.setIfInBounds_toArray, List.set_cons_zero, List.set_cons_succ]
      exact key2_1.out (0, q10) _ ⟨hS.on hb, ⟨hn1, hc1.on hb⟩⟩
    · simp only [Act.put, List.setIfInBounds_toArray, List.set_cons_zero, List.set_cons_succ]
      exact key1_01.out (W.heap.size, q10) _ ⟨hS.alloc _, ⟨hS.size, Cell.new _ _ _⟩, ⟨hn1, hc1.alloc _⟩, (fun (e : W.heap.size = q10) => by have h : q10 < W.heap.size := hc1.lt; omega)⟩
  simp only [Act.put, List.setIfInBounds_toArray, List.set_cons_zero, List.set_cons_succ] at key1_10
  have key1_1 := Lib.hid key1_10
  clear key1_10
  refine meetH (fun (x : Nat × Nat) a => ((a.put (some 26) (nmV sa)).put (some 32) (nmV sb))) #[true, true, true, true, true, true, true, true, true, true, true, true, false, false, false, false] 4 (fun (_ : Nat × Nat) W => (Env w W n1 [(q8, (40, fdA p o)), ((w.heap.size + 4), (62, fdA 0 0)), ((w.heap.size + 3), (62, fdA 0 0)), ((w.heap.size + 2), (62, fdA A3 C3)), ((w.heap.size + 1), (62, fdA A2 C2)), (w.heap.size, (42, ldA p o U))])) ?_ (fun key2_0 => ?_)
  · rintro ⟨q9, q10⟩ W hS
    simp only [Act.put, List.setIfInBounds_toArray, List.set_cons_zero, List.set_cons_succ]
    refine wpAnyH_ready (rs := [12, 13]) (by kernel_rfl) (by simp) ?_
    refine allocH (some 9) rfl rfl rfl 38 rfl (nmA (lb 0)) alloc_n (hS.alloc _) ?_ (allocH (some 10) rfl rfl rfl 38 rfl (nmA (lb 0)) alloc_n (hS.alloc _) ?_ AllReadyH.nil)
    · simp only [Act.put, List.setIfInBounds_toArray, List.set_cons_zero, List.set_cons_succ]
      exact key2_0.out (W.heap.size, 0) _ ⟨hS.alloc _, ⟨hS.size, Cell.new _ _ _⟩⟩
    · simp only [Act.put, List.setIfInBounds_toArray, List.set_cons_zero, List.set_cons_succ]
      exact key2_1.out (0, W.heap.size) _ ⟨hS.alloc _, ⟨hS.size, Cell.new _ _ _⟩⟩
  simp only [Act.put, List.setIfInBounds_toArray, List.set_cons_zero, List.set_cons_succ] at key2_0
  have key2_ := Lib.hid key2_0
  clear key2_0
  refine meetH (fun (x : Nat × Nat) a => (a.put (some 9) (.pointer (some ⟨x.1, 0, none⟩)))) #[true, true, true, true, true, false, true, true, true, true, true, false, true, false, false, false] 5 (fun (x : Nat × Nat) W => (Env w W n1 [(q8, (40, fdA p o)), ((w.heap.size + 4), (62, fdA 0 0)), ((w.heap.size + 3), (62, fdA 0 0)), ((w.heap.size + 2), (62, fdA A3 C3)), ((w.heap.size + 1), (62, fdA A2 C2)), (w.heap.size, (42, ldA p o U))]) ∧ (n1 ≤ x.1 ∧ Cell W x.1 (38, nmA (lb 0)))) ?_ (fun key0_00 => ?_)
  · rintro ⟨q9, q10⟩ W ⟨hS, ⟨hn0, hc0⟩⟩
    simp only [Act.put, List.setIfInBounds_toArray, List.set_cons_zero, List.set_cons_succ]
    refine wpAnyH_ready (rs := [5, 13]) (by kernel_rfl) (by simp) ?_
    refine callH (some 26) rfl rfl rfl 43 _ _ rfl (fun _ _ => by go_simp) #[fdV p o, nmV A2, nmV C2] (by kernel_rfl) ?_ (allocH (some 10) rfl rfl rfl 38 rfl (nmA (lb 0)) alloc_n (hS.alloc _) ?_ AllReadyH.nil)
    · refine (Ksa.out W).mono ?_
      rintro e u ⟨rfl, hb⟩
      refine ⟨_, rfl, hS.on hb, ?_⟩
      simp only [Act.put, List.setIfInBounds_toArray, List.set_cons_zero, List.set_cons_succ]
      exact key1_0.out (q9, 0) _ ⟨hS.on hb, ⟨hn0, hc0.on hb⟩⟩
    · simp only [Act.put, List.setIfInBounds_toArray, List.set_cons_zero, List.set_cons_succ]
      exact key0_01.out (q9, W.heap.size) _ ⟨hS.alloc _, ⟨hn0, hc0.alloc _⟩, ⟨hS.size, Cell.new _ _ _⟩, (fun (e : q9 = W.heap.size) => by have h : q9 < W.heap.size := hc0.lt; omega)⟩
  simp only [Act.put, List.setIfInBounds_toArray, List.set_cons_zero, List.set_cons_succ] at key0_00
  have key0_0 := Lib.hid key0_00
  clear key0_00
  refine meetH (fun (x : Nat × Nat) a => (a.put (some 10) (.pointer (some ⟨x.2, 0, none⟩)))) #[true, true, true, true, true, false, true, true, true, true, true, false, false, true, false, false] 5 (fun (x : Nat × Nat) W => (Env w W n1 [(q8, (40, fdA p o)), ((w.heap.size + 4), (62, fdA 0 0)), ((w.heap.size + 3), (62, fdA 0 0)), ((w.heap.size + 2), (62, fdA A3 C3)), ((w.heap.size + 1), (62, fdA A2 C2)), (w.heap.size, (42, ldA p o U))]) ∧ (n1 ≤ x.2 ∧ Cell W x.2 (38, nmA (lb 0)))) ?_ (fun key0_10 => ?_)
  · rintro ⟨q9, q10⟩ W ⟨hS, ⟨hn1, hc1⟩⟩
    simp only [Act.put, List.setIfInBounds_toArray, List.set_cons_zero, List.set_cons_succ]
    refine wpAnyH_ready (rs := [5, 12]) (by kernel_rfl) (by simp) ?_
    refine callH (some 26) rfl rfl rfl 43 _ _ rfl (fun _ _ => by go_simp) #[fdV p o, nmV A2, nmV C2] (by kernel_rfl) ?_ (allocH (some 9) rfl rfl rfl 38 rfl (nmA (lb 0)) alloc_n (hS.alloc _) ?_ AllReadyH.nil)
    · refine (Ksa.out W).mono ?_
      rintro e u ⟨rfl, hb⟩
      refine ⟨_, rfl, hS.on hb, ?_⟩
      simp only [Act.put, List.setIfInBounds_toArray, List.set_cons_zero, List.set_cons_succ]
      exact key1_1.out (0, q10) _ ⟨hS.on hb, ⟨hn1, hc1.on hb⟩⟩
    · simp only [Act.put, List.setIfInBounds_toArray, List.set_cons_zero, List.set_cons_succ]
      exact key0_01.out (W.heap.size, q10) _ ⟨hS.alloc _, ⟨hS.size, Cell.new _ _ _⟩, ⟨hn1, hc1.alloc _⟩, (fun (e : W.heap.size = q10) => by have h : q10 < W.heap.size := hc1.lt; omega)⟩
  simp only [Act.put, List.setIfInBounds_toArray, List.set_cons_zero, List.set_cons_succ] at key0_10
  have key0_1 := Lib.hid key0_10
  clear key0_10
  refine meetH (fun (x : Nat × Nat) a => (a.put (some 26) (nmV sa))) #[true, true, true, true, true, true, true, true, true, true, true, false, false, false, false, false] 5 (fun (_ : Nat × Nat) W => (Env w W n1 [(q8, (40, fdA p o)), ((w.heap.size + 4), (62, fdA 0 0)), ((w.heap.size + 3), (62, fdA 0 0)), ((w.heap.size + 2), (62, fdA A3 C3)), ((w.heap.size + 1), (62, fdA A2 C2)), (w.heap.size, (42, ldA p o U))])) ?_ (fun key1_0 => ?_)
  · rintro ⟨q9, q10⟩ W hS
    simp only [Act.put, List.setIfInBounds_toArray, List.set_cons_zero, List.set_cons_succ]
    refine wpAnyH_ready (rs := [11, 12, 13]) (by kernel_rfl) (by simp) ?_
    refine callH (some 32) rfl rfl rfl 44 _ _ rfl (fun _ _ => by go_simp) #[fdV p o, nmV A2, nmV C2] (by kernel_rfl) ?_ (allocH (some 9) rfl rfl rfl 38 rfl (nmA (lb 0)) alloc_n (hS.alloc _) ?_ (allocH (some 10) rfl rfl rfl 38 rfl (nmA (lb 0)) alloc_n (hS.alloc _) ?_ AllReadyH.nil))
    · refine (Ksb.out W).mono ?_
      rintro e u ⟨rfl, hb⟩
      refine ⟨_, rfl, hS.on hb, ?_⟩
      simp only [Act.put, List.setIfInBounds_toArray, List.set_cons_zero, List.set_cons_succ]
      exact key2_.out (0, 0) _ (hS.on hb)
    · simp only [Act.put, List.setIfInBounds_toArray, List.set_cons_zero, List.set_cons_succ]
      exact key1_0.out (W.heap.size, 0) _ ⟨hS.alloc _, ⟨hS.size, Cell.new _ _ _⟩⟩
    · simp only [Act.put, List.setIfInBounds_toArray, List.set_cons_zero, List.set_cons_succ]
      exact key1_1.out (0, W.heap.size) _ ⟨hS.alloc _, ⟨hS.size, Cell.new _ _ _⟩⟩
  simp only [Act.put, List.setIfInBounds_toArray, List.set_cons_zero, List.set_cons_succ] at key1_0
  have key1_ := Lib.hid key1_0
  clear key1_0
  refine wpAnyH_ready (rs := [5, 12, 13]) (by kernel_rfl) (by simp) ?_
  refine callH (some 26) rfl rfl rfl 43 _ _ rfl (fun _ _ => by go_simp) #[fdV p o, nmV A2, nmV C2] (by kernel_rfl) ?_ (allocH (some 9) rfl rfl rfl 38 rfl (nmA (lb 0)) alloc_n (HSx.out.alloc _) ?_ (allocH (some 10) rfl rfl rfl 38 rfl (nmA (lb 0)) alloc_n (HSx.out.alloc _) ?_ AllReadyH.nil))
  · refine (Ksa.out wd).mono ?_
    rintro e u ⟨rfl, hb⟩
    refine ⟨_, rfl, HSx.out.on hb, ?_⟩
    simp only [Act.put, List.setIfInBounds_toArray, List.set_cons_zero, List.set_cons_succ]
    exact key1_.out (0, 0) _ (HSx.out.on hb)
  · simp only [Act.put, List.setIfInBounds_toArray, List.set_cons_zero, List.set_cons_succ]
    exact key0_0.out (wd.heap.size, 0) _ ⟨HSx.out.alloc _, ⟨HSx.out.size, Cell.new _ _ _⟩⟩
  · simp only [Act.put, List.setIfInBounds_toArray, List.set_cons_zero, List.set_cons_succ]
    exact key0_1.out (0, wd.heap.size) _ ⟨HSx.out.alloc _, ⟨HSx.out.size, Cell.new _ _ _⟩⟩
end Go.Proofs.Xe
