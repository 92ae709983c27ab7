/-
  The developers' X25519: Shared and Public at every input.
-/
import Derived.Test.YtpniinolkflfjaaJobx
import Derived.Test.YtpniinolkflfjaaJoby
namespace Go.Proofs.Xd
open Go.Proofs.Xe
open Go.RowKit
open Go.Proofs.Im (wpList_box_to words_heap words_one run_index_row)
open Go.Proofs.Sha (wordCells wordCells_get wordCells_size rowIs_of wpList_alloc_to wpList_build_to)
open Go.Proofs.Nt
open Go.Proofs.Nu (nmL nmA nmV nmA_one nmA_size results_row_slot md md_lt md_prime B8)
open Go.Proofs.Nd (fdA fdV fdA_size fdA_one alloc_n alloc_f ov zOk of_any)
open Go.Proofs.Eo
open Go.Proofs.En (meetH)
open Go.Proofs.He (takeH load_row callH allocH storeH)
open Go.Proofs.Aes (byt byt_lt get_byt)
open Go.Proofs.Xu (rv rv_size kE uX shS shE shOk sF sF_eq sh_zero sh_fine)
open Go.Proofs.Xv (nineS)
set_option maxHeartbeats 4000000 in
theorem shared_bad (k ut : ByteArray) (w : World) (hL : ∀ v : World, Calls Try.prog 13 #[.string ut] v fun e v' => e = .returned (.tuple #[ldV 0 0 0, .bool false]) ∧ Below v.heap.size v v') :
    Calls Try.prog 7 #[.string k, .string ut] w fun e u => e = .returned (.tuple #[.string ⟨#[]⟩, .int .i64 1000]) ∧ Below w.heap.size w u := by
  have HLa := Lib.hid hL
  clear hL
  go_enter Try.func7, Try.ntmps7
  have HM := Lib.hid (Env.start w)
  go_upto_region 1 with (fail)
  apply wp_region_lit
  refine Lw.wpList_val rfl (.string ut) w (by go_simp) ?_
  simp only [Act.put, List.setIfInBounds_toArray, List.set_cons_zero, List.set_cons_succ]
  refine Lw.wpList_callTo (some 11) rfl rfl 13 _ _ rfl (fun _ _ => by go_simp) #[.string ut] (by kernel_rfl) ?_
  refine (HLa.out w).mono ?_
  rintro e u1 ⟨rfl, hb⟩
  refine ⟨_, rfl, ?_⟩
  have HM := Lib.hid (HM.out.on hb)
  clear hb
  simp only [Act.put, List.setIfInBounds_toArray, List.set_cons_zero, List.set_cons_succ]
  refine Lw.wpList_val rfl (.tuple #[ldV 0 0 0, .bool false]) u1 (by go_simp) ?_
  simp only [Act.put, List.setIfInBounds_toArray, List.set_cons_zero, List.set_cons_succ]
  refine Lw.wpList_val rfl (ldV 0 0 0) u1 (by go_simp) ?_
  simp only [Act.put, List.setIfInBounds_toArray, List.set_cons_zero, List.set_cons_succ]
  refine Lw.wpList_val rfl (.bool false) u1 (by go_simp) ?_
  simp only [Act.put, List.setIfInBounds_toArray, List.set_cons_zero, List.set_cons_succ]
  refine wpList_alloc_to rfl 42 rfl (ldA 0 0 0) u1.heap.size rfl alloc_l ?_
  simp only [Act.put, List.setIfInBounds_toArray, List.set_cons_zero, List.set_cons_succ]
  refine wpList_store_row rfl 42 _ _ rfl u1.heap.size (ldA 0 0 0) (by kernel_rfl) (by kernel_rfl) 42 _ (heap_alloc_last _ _) (by kernel_rfl) (by first | rw [nmA_size, nmA_size] | rfl) (ldA_one _ _ _) ?_
  rw [World.setRow_alloc_new]
  simp only [Act.put]
  have HM := Lib.hid ((HM.out.alloc (.cells (ldA 0 0 0) 42)).cons (HM.out.size) (Cell.new 42 u1 (ldA 0 0 0)))
  generalize u1.alloc (.cells (ldA 0 0 0) 42) = w2 at HM ⊢
  generalize u1.heap.size = q6 at HM ⊢
  generalize q6 + 1 = n1 at HM
  refine Lw.wpList_val rfl (.bool false) w2 (by go_simp) ?_
  simp only [Act.put, List.setIfInBounds_toArray, List.set_cons_zero, List.set_cons_succ]
  go_wp2_with (fail)
  go_ret2
  exact ⟨rfl, HM.out.below⟩
set_option maxHeartbeats 4000000 in
theorem shared_short (p o ux : Nat) (k ut : ByteArray) (w : World) (hk : ¬ k.size = 32) (hL : ∀ v : World, Calls Try.prog 13 #[.string ut] v fun e v' => e = .returned (.tuple #[ldV p o ux, .bool true]) ∧ Below v.heap.size v v') :
    Calls Try.prog 7 #[.string k, .string ut] w fun e u => e = .returned (.tuple #[.string ⟨#[]⟩, .int .i64 1000]) ∧ Below w.heap.size w u := by
  have HLa := Lib.hid hL
  have hz : ((k.size : Int) != 32) = true := bne_iff_ne.2 (by omega)
  clear hL hk
  go_enter Try.func7, Try.ntmps7
  have HM := Lib.hid (Env.start w)
  go_upto_region 1 with (fail)
  apply wp_region_lit
  refine Lw.wpList_val rfl (.string ut) w (by go_simp) ?_
  simp only [Act.put, List.setIfInBounds_toArray, List.set_cons_zero, List.set_cons_succ]
  refine Lw.wpList_callTo (some 11) rfl rfl 13 _ _ rfl (fun _ _ => by go_simp) #[.string ut] (by kernel_rfl) ?_
  refine (HLa.out w).mono ?_
  rintro e u1 ⟨rfl, hb⟩
  refine ⟨_, rfl, ?_⟩
  have HM := Lib.hid (HM.out.on hb)
  clear hb
  simp only [Act.put, List.setIfInBounds_toArray, List.set_cons_zero, List.set_cons_succ]
  refine Lw.wpList_val rfl (.tuple #[ldV p o ux, .bool true]) u1 (by go_simp) ?_
  simp only [Act.put, List.setIfInBounds_toArray, List.set_cons_zero, List.set_cons_succ]
  refine Lw.wpList_val rfl (ldV p o ux) u1 (by go_simp) ?_
  simp only [Act.put, List.setIfInBounds_toArray, List.set_cons_zero, List.set_cons_succ]
  refine Lw.wpList_val rfl (.bool true) u1 (by go_simp) ?_
  simp only [Act.put, List.setIfInBounds_toArray, List.set_cons_zero, List.set_cons_succ]
  refine wpList_alloc_to rfl 42 rfl (ldA 0 0 0) u1.heap.size rfl alloc_l ?_
  simp only [Act.put, List.setIfInBounds_toArray, List.set_cons_zero, List.set_cons_succ]
  refine wpList_store_row rfl 42 _ _ rfl u1.heap.size (ldA p o ux) (by kernel_rfl) (by kernel_rfl) 42 _ (heap_alloc_last _ _) (by kernel_rfl) (by first | rw [nmA_size, nmA_size] | rfl) (ldA_one _ _ _) ?_
  rw [World.setRow_alloc_new]
  simp only [Act.put]
  have HM := Lib.hid ((HM.out.alloc (.cells (ldA p o ux) 42)).cons (HM.out.size) (Cell.new 42 u1 (ldA p o ux)))
  generalize u1.alloc (.cells (ldA p o ux) 42) = w2 at HM ⊢
  generalize u1.heap.size = q6 at HM ⊢
  generalize q6 + 1 = n1 at HM
  refine Lw.wpList_val rfl (.bool true) w2 (by go_simp) ?_
  simp only [Act.put, List.setIfInBounds_toArray, List.set_cons_zero, List.set_cons_succ]
  go_wp2_with (fail)
  go_ret2
  exact ⟨rfl, HM.out.below⟩
set_option maxHeartbeats 4000000 in
set_option maxRecDepth 20000 in
theorem shared_raw (p o ux R : Nat) (F : Nat → Nat) (z : Bool) (k ut T S : ByteArray) (w : World) (hk : k.size = 32) (hL : ∀ v : World, Calls Try.prog 13 #[.string ut] v fun e v' => e = .returned (.tuple #[ldV p o ux, .bool true]) ∧ Below v.heap.size v v')
    (hC : ∀ v : World, Calls Try.prog 15 #[.string k] v fun e v' => e = .returned (scV F) ∧ Below v.heap.size v v')
    (hTi : ∀ v : World, Calls Try.prog 14 #[ldV p o ux, scV F] v fun e v' => e = .returned (nmV R) ∧ Below v.heap.size v v')
    (hZ : ∀ v : World, Calls Try.prog 16 #[nmV R] v fun e v' => e = .returned (.bool z) ∧ Below v.heap.size v v')
    (hTx : ∀ v : World, Calls Try.prog 18 #[nmV R] v fun e v' => e = .returned (.string T) ∧ Below v.heap.size v v')
    (hRv : ∀ v : World, Calls Try.prog 17 #[.string T] v fun e v' => e = .returned (.string S) ∧ Below v.heap.size v v') :
    Calls Try.prog 7 #[.string k, .string ut] w fun e u => e = .returned (.tuple #[.string (bif z then ⟨#[]⟩ else S), .int .i64 (bif z then 1001 else 0)]) ∧ Below w.heap.size w u := by
  have HLa := Lib.hid hL
  have HCl := Lib.hid hC
  have HTi := Lib.hid hTi
  have HZe := Lib.hid hZ
  have HTx := Lib.hid hTx
  have HRv := Lib.hid hRv
  have hz : ((k.size : Int) != 32) = false := by rw [hk]; rfl
  clear hL hC hTi hZ hTx hRv hk
  go_enter Try.func7, Try.ntmps7
  have HM := Lib.hid (Env.start w)
  go_upto_region 1 with (fail)
  apply wp_region_lit
  refine Lw.wpList_val rfl (.string ut) w (by go_simp) ?_
  simp only [Act.put, List.setIfInBounds_toArray, List.set_cons_zero, List.set_cons_succ]
  refine Lw.wpList_callTo (some 11) rfl rfl 13 _ _ rfl (fun _ _ => by go_simp) #[.string ut] (by kernel_rfl) ?_
  refine (HLa.out w).mono ?_
  rintro e u1 ⟨rfl, hb⟩
  refine ⟨_, rfl, ?_⟩
  have HM := Lib.hid (HM.out.on hb)
  clear hb
  simp only [Act.put, List.setIfInBounds_toArray, List.set_cons_zero, List.set_cons_succ]
  refine Lw.wpList_val rfl (.tuple #[ldV p o ux, .bool true]) u1 (by go_simp) ?_
  simp only [Act.put, List.setIfInBounds_toArray, List.set_cons_zero, List.set_cons_succ]
  refine Lw.wpList_val rfl (ldV p o ux) u1 (by go_simp) ?_
  simp only [Act.put, List.setIfInBounds_toArray, List.set_cons_zero, List.set_cons_succ]
  refine Lw.wpList_val rfl (.bool true) u1 (by go_simp) ?_
  simp only [Act.put, List.setIfInBounds_toArray, List.set_cons_zero, List.set_cons_succ]
  refine wpList_alloc_to rfl 42 rfl (ldA 0 0 0) u1.heap.size rfl alloc_l ?_
  simp only [Act.put, List.setIfInBounds_toArray, List.set_cons_zero, List.set_cons_succ]
  refine wpList_store_row rfl 42 _ _ rfl u1.heap.size (ldA p o ux) (by kernel_rfl) (by kernel_rfl) 42 _ (heap_alloc_last _ _) (by kernel_rfl) (by first | rw [nmA_size, nmA_size] | rfl) (ldA_one _ _ _) ?_
  rw [World.setRow_alloc_new]
  simp only [Act.put]
  have HM := Lib.hid ((HM.out.alloc (.cells (ldA p o ux) 42)).cons (HM.out.size) (Cell.new 42 u1 (ldA p o ux)))
  generalize u1.alloc (.cells (ldA p o ux) 42) = w2 at HM ⊢
  generalize u1.heap.size = q6 at HM ⊢
  generalize q6 + 1 = n1 at HM
  refine Lw.wpList_val rfl (.bool true) w2 (by go_simp) ?_
  simp only [Act.put, List.setIfInBounds_toArray, List.set_cons_zero, List.set_cons_succ]
  go_upto_region 4 with (fail)
  clear hz
  have hSd := HM.out.drew
  clear HM
  refine wp_region_held (S := fun u => Env w u n1 [(q6, (42, ldA p o ux))]) (by kernel_rfl) ?_
  change wpAnyH _ _ _ _ _ _ _ _ w2.drew
  have HSx := Lib.hid hSd
  clear hSd
  generalize w2.drew = wd at HSx ⊢
  refine takeH (i := 0) (some 21) (.agg (ldA p o ux)) rfl rfl rfl (by kernel_rfl) (by kernel_rfl) (by kernel_rfl) (fun _ _ _ h => h) (load_row 42 _ rfl q6 (by kernel_rfl) 42 (ldA p o ux) (0, 0) _ Try.underlying42 rfl (by kernel_rfl) (fun w h => h.get 0 rfl)) HSx.out ?_
  simp only [Act.put, List.setIfInBounds_toArray, List.set_cons_zero, List.set_cons_succ]
  refine takeH (i := 1) (some 22) (.string k) rfl rfl rfl (by kernel_rfl) (by kernel_rfl) (by kernel_rfl) (fun _ _ _ h => h) (fun w _ => by go_simp) HSx.out ?_
  simp only [Act.put, List.setIfInBounds_toArray, List.set_cons_zero, List.set_cons_succ]
  refine meetH (fun (x : Nat) a => (((a.put (some 23) (scV F)).put (some 24) (nmV R)).put (some 8) (.pointer (some ⟨x, 0, none⟩)))) #[true, true, true, true, true, false] 1 (fun (x : Nat) W => (Env w W n1 [(q6, (42, ldA p o ux))]) ∧ (n1 ≤ x ∧ Cell W x (38, nmA (lb 0)))) ?_ (fun key2_00 => ?_)
  · rintro q8 W ⟨hS, ⟨hn0, hc0⟩⟩
    simp only [Act.put, List.setIfInBounds_toArray, List.set_cons_zero, List.set_cons_succ]
    have HE := Lib.hid hS
    have C0 := Lib.hid hc0
    refine wpAnyH_ready (rs := [5]) (by kernel_rfl) (by simp) ?_
    refine storeH rfl rfl rfl 38 _ _ rfl q8 (nmA (lb R)) (by kernel_rfl) (by kernel_rfl) 38 _ C0.out (by kernel_rfl) (by first | rw [nmA_size, nmA_size] | rfl) (nmA_one _) (HE.out.far _ hn0) ?_ AllReadyH.nil
    have HE := Lib.hid (HE.out.far (nmA (lb R)) hn0)
    have C0 := Lib.hid (C0.out.put (nmA (lb R)))
    generalize W.setRow q8 (nmA (lb R)) = ws0 at HE C0 ⊢
    simp only [Act.put, List.setIfInBounds_toArray, List.set_cons_zero, List.set_cons_succ]
    refine wpAnyH_done (by kernel_rfl) ?_ _
    have HM := Lib.hid ((HE.out).add (Nat.le_trans HE.out.base hn0) (HE.out.old hn0) C0.out)
    clear HE C0 hn0 hc0 
    generalize ws0.heap.size = n2 at HM
    generalize ws0 = wz at HM ⊢
    go_upto_region 5 with (fail)
    apply wp_region_lit
    refine wpList_load_row rfl 38 _ rfl q8 (by kernel_rfl) 38 (nmA (lb R)) (0, 0) _ (HM.out.get 0 rfl) Try.underlying38 rfl (by kernel_rfl) ?_
    simp only [Act.put, List.setIfInBounds_toArray, List.set_cons_zero, List.set_cons_succ]
    refine Lw.wpList_callTo (some 26) rfl rfl 16 _ _ rfl (fun _ _ => by go_simp) #[nmV R] (by kernel_rfl) ?_
    refine (HZe.out wz).mono ?_
    rintro e u3 ⟨rfl, hb⟩
    refine ⟨_, rfl, ?_⟩
    have HM := Lib.hid (HM.out.on hb)
    clear hb
    simp only [Act.put, List.setIfInBounds_toArray, List.set_cons_zero, List.set_cons_succ]
    cases z
    · go_upto_region 7 with (fail)
      apply wp_region_lit
      refine wpList_load_row rfl 38 _ rfl q8 (by kernel_rfl) 38 (nmA (lb R)) (0, 0) _ (HM.out.get 0 rfl) Try.underlying38 rfl (by kernel_rfl) ?_
      simp only [Act.put, List.setIfInBounds_toArray, List.set_cons_zero, List.set_cons_succ]
      refine Lw.wpList_callTo (some 28) rfl rfl 18 _ _ rfl (fun _ _ => by go_simp) #[nmV R] (by kernel_rfl) ?_
      refine (HTx.out u3).mono ?_
      rintro e u4 ⟨rfl, hb⟩
      refine ⟨_, rfl, ?_⟩
      have HM := Lib.hid (HM.out.on hb)
      clear hb
      simp only [Act.put, List.setIfInBounds_toArray, List.set_cons_zero, List.set_cons_succ]
      refine Lw.wpList_callTo (some 29) rfl rfl 17 _ _ rfl (fun _ _ => by go_simp) #[.string T] (by kernel_rfl) ?_
      refine (HRv.out u4).mono ?_
      rintro e u5 ⟨rfl, hb⟩
      refine ⟨_, rfl, ?_⟩
      have HM := Lib.hid (HM.out.on hb)
      clear hb
      simp only [Act.put, List.setIfInBounds_toArray, List.set_cons_zero, List.set_cons_succ]
      refine Lw.wpList_val rfl (.string S) u5 (by go_simp) ?_
      simp only [Act.put, List.setIfInBounds_toArray, List.set_cons_zero, List.set_cons_succ]
      refine Lw.wpList_val rfl (.int .i64 0) u5 (by go_simp) ?_
      simp only [Act.put, List.setIfInBounds_toArray, List.set_cons_zero, List.set_cons_succ]
      go_wp2_with (fail)
      go_ret2
      exact ⟨rfl, HM.out.below⟩
    · go_wp2_with (fail)
      go_ret2
      exact ⟨rfl, HM.out.below⟩
  simp only [Act.put, List.setIfInBounds_toArray, List.set_cons_zero, List.set_cons_succ] at key2_00
  have key2_0 := Lib.hid key2_00
  clear key2_00
  refine meetH (fun (x : Nat) a => ((a.put (some 23) (scV F)).put (some 8) (.pointer (some ⟨x, 0, none⟩)))) #[true, true, true, false, true, false] 2 (fun (x : Nat) W => (Env w W n1 [(q6, (42, ldA p o ux))]) ∧ (n1 ≤ x ∧ Cell W x (38, nmA (lb 0)))) ?_ (fun key1_00 => ?_)
  · rintro q8 W ⟨hS, ⟨hn0, hc0⟩⟩
    simp only [Act.put, List.setIfInBounds_toArray, List.set_cons_zero, List.set_cons_succ]
    refine wpAnyH_ready (rs := [3]) (by kernel_rfl) (by simp) ?_
    refine callH (some 24) rfl rfl rfl 14 _ _ rfl (fun _ _ => by go_simp) #[ldV p o ux, scV F] (by kernel_rfl) ?_ AllReadyH.nil
    · refine (HTi.out W).mono ?_
      rintro e u ⟨rfl, hb⟩
      refine ⟨_, rfl, hS.on hb, ?_⟩
      simp only [Act.put, List.setIfInBounds_toArray, List.set_cons_zero, List.set_cons_succ]
      exact key2_0.out q8 _ ⟨hS.on hb, ⟨hn0, hc0.on hb⟩⟩
  simp only [Act.put, List.setIfInBounds_toArray, List.set_cons_zero, List.set_cons_succ] at key1_00
  have key1_0 := Lib.hid key1_00
  clear key1_00
  refine meetH (fun (x : Nat) a => ((a.put (some 23) (scV F)).put (some 24) (nmV R))) #[true, true, true, true, false, false] 2 (fun (_ : Nat) W => (Env w W n1 [(q6, (42, ldA p o ux))])) ?_ (fun key2_0 => ?_)
  · rintro q8 W hS
    simp only [Act.put, List.setIfInBounds_toArray, List.set_cons_zero, List.set_cons_succ]
    refine wpAnyH_ready (rs := [4]) (by kernel_rfl) (by simp) ?_
    refine allocH (some 8) rfl rfl rfl 38 rfl (nmA (lb 0)) alloc_n (hS.alloc _) ?_ AllReadyH.nil
    · simp only [Act.put, List.setIfInBounds_toArray, List.set_cons_zero, List.set_cons_succ]
      exact key2_0.out W.heap.size _ ⟨hS.alloc _, ⟨hS.size, Cell.new _ _ _⟩⟩
  simp only [Act.put, List.setIfInBounds_toArray, List.set_cons_zero, List.set_cons_succ] at key2_0
  have key2_ := Lib.hid key2_0
  clear key2_0
  refine meetH (fun (x : Nat) a => (a.put (some 8) (.pointer (some ⟨x, 0, none⟩)))) #[true, true, false, false, true, false] 3 (fun (x : Nat) W => (Env w W n1 [(q6, (42, ldA p o ux))]) ∧ (n1 ≤ x ∧ Cell W x (38, nmA (lb 0)))) ?_ (fun key0_00 => ?_)
  · rintro q8 W ⟨hS, ⟨hn0, hc0⟩⟩
    simp only [Act.put, List.setIfInBounds_toArray, List.set_cons_zero, List.set_cons_succ]
    refine wpAnyH_ready (rs := [2]) (by kernel_rfl) (by simp) ?_
    refine callH (some 23) rfl rfl rfl 15 _ _ rfl (fun _ _ => by go_simp) #[.string k] (by kernel_rfl) ?_ AllReadyH.nil
    · refine (HCl.out W).mono ?_
      rintro e u ⟨rfl, hb⟩
      refine ⟨_, rfl, hS.on hb, ?_⟩
      simp only [Act.put, List.setIfInBounds_toArray, List.set_cons_zero, List.set_cons_succ]
      exact key1_0.out q8 _ ⟨hS.on hb, ⟨hn0, hc0.on hb⟩⟩
  simp only [Act.put, List.setIfInBounds_toArray, List.set_cons_zero, List.set_cons_succ] at key0_00
  have key0_0 := Lib.hid key0_00
  clear key0_00
  refine meetH (fun (x : Nat) a => (a.put (some 23) (scV F))) #[true, true, true, false, false, false] 3 (fun (_ : Nat) W => (Env w W n1 [(q6, (42, ldA p o ux))])) ?_ (fun key1_0 => ?_)
  · rintro q8 W hS
    simp only [Act.put, List.setIfInBounds_toArray, List.set_cons_zero, List.set_cons_succ]
    refine wpAnyH_ready (rs := [3, 4]) (by kernel_rfl) (by simp) ?_
    refine callH (some 24) rfl rfl rfl 14 _ _ rfl (fun _ _ => by go_simp) #[ldV p o ux, scV F] (by kernel_rfl) ?_ (allocH (some 8) rfl rfl rfl 38 rfl (nmA (lb 0)) alloc_n (hS.alloc _) ?_ AllReadyH.nil)
    · refine (HTi.out W).mono ?_
      rintro e u ⟨rfl, hb⟩
      refine ⟨_, rfl, hS.on hb, ?_⟩
      simp only [Act.put, List.setIfInBounds_toArray, List.set_cons_zero, List.set_cons_succ]
      exact key2_.out 0 _ (hS.on hb)
    · simp only [Act.put, List.setIfInBounds_toArray, List.set_cons_zero, List.set_cons_succ]
      exact key1_0.out W.heap.size _ ⟨hS.alloc _, ⟨hS.size, Cell.new _ _ _⟩⟩
  simp only [Act.put, List.setIfInBounds_toArray, List.set_cons_zero, List.set_cons_succ] at key1_0
  have key1_ := Lib.hid key1_0
  clear key1_0
  refine wpAnyH_ready (rs := [2, 4]) (by kernel_rfl) (by simp) ?_
  refine callH (some 23) rfl rfl rfl 15 _ _ rfl (fun _ _ => by go_simp) #[.string k] (by kernel_rfl) ?_ (allocH (some 8) rfl rfl rfl 38 rfl (nmA (lb 0)) alloc_n (HSx.out.alloc _) ?_ AllReadyH.nil)
  · refine (HCl.out wd).mono ?_
    rintro e u ⟨rfl, hb⟩
    refine ⟨_, rfl, HSx.out.on hb, ?_⟩
    simp only [Act.put, List.setIfInBounds_toArray, List.set_cons_zero, List.set_cons_succ]
    exact key1_.out 0 _ (HSx.out.on hb)
  · simp only [Act.put, List.setIfInBounds_toArray, List.set_cons_zero, List.set_cons_succ]
    exact key0_0.out wd.heap.size _ ⟨HSx.out.alloc _, ⟨HSx.out.size, Cell.new _ _ _⟩⟩
theorem sh_no {k u : ByteArray} (h : ¬ (k.size = 32 ∧ u.size = 32)) : shS k u = ⟨#[]⟩ ∧ shE k u = 1000 := by
  have e : shOk k u = false := by
    unfold shOk
    rw [Bool.eq_false_iff]
    intro c
    rw [Bool.and_eq_true, beq_iff_eq, beq_iff_eq] at c
    exact h c
  unfold shS shE
  rw [e]
  exact ⟨rfl, rfl⟩
theorem shared_any (k u : ByteArray) (w : World) : Calls Try.prog 7 #[.string k, .string u] w fun e w' => e = .returned (.tuple #[.string (shS k u), .int .i64 (shE k u)]) ∧ Below w.heap.size w w' := by
  by_cases hu : u.size = 32
  · have hL := fun v : World => ladderAt_ok u v hu
    by_cases hk : k.size = 32
    · have hTi := fun v : World => times_any k u v
      obtain ⟨E, hE⟩ : ∃ E, kE k = E := ⟨_, rfl⟩
      rw [hE] at hTi
      obtain ⟨F, hF⟩ : ∃ F, Ec.ladU 121665 (uX u) E = F := ⟨_, rfl⟩
      rw [hF] at hTi
      have hU : (sF k u).val = F.val := congrArg Fin.val (sF_eq k u hE hF)
      obtain ⟨R, hR⟩ : ∃ R, F.val = R := ⟨_, rfl⟩
      have hlt : F.val < B8 := Nat.lt_trans F.isLt (by decide +kernel)
      rw [hR] at hTi hU hlt
      have h := shared_raw (md 2) (ov 2) (uX u).val R (cb k) (decide (R = 0)) k u (t32 R) (rv (t32 R)) w hk hL (fun v => clamped_any k v hk) hTi (fun v => Nd.zero_any R v hlt) (fun v => Nd.text_any R v) (fun v => reversed_any _ v (t32_size R))
      have hki : (k.size : Int) = 32 := by omega
      have hui : (u.size : Int) = 32 := by omega
      by_cases h0 : R = 0
      · rw [decide_eq_true h0] at h
        rw [h0] at hU
        rw [(sh_zero hki hui hU).1, (sh_zero hki hui hU).2]
        exact h
      · rw [decide_eq_false h0] at h
        rw [(sh_fine hki hui hU h0).1, (sh_fine hki hui hU h0).2]
        exact h
    · rw [(sh_no fun c => hk c.1).1, (sh_no fun c => hk c.1).2]
      exact shared_short _ _ _ k u w hk hL
  · rw [(sh_no fun c => hu c.2).1, (sh_no fun c => hu c.2).2]
    exact shared_bad k u w fun v => ladderAt_bad _ _ u v hu of_two
theorem shE_wrap (k u : ByteArray) : IntKind.i64.wrap (shE k u) = shE k u := by
  unfold shE
  cases shOk k u
  · rfl
  · cases ((sF k u).val == 0) <;> rfl
/-- The base's text, as the program lays it. -/
def nineL : ByteArray := ⟨#[9, 0, 0, 0, 0, 0, 0, 0, 0, 0, 0, 0, 0, 0, 0, 0, 0, 0, 0, 0, 0, 0, 0, 0, 0, 0, 0, 0, 0, 0, 0, 0]⟩
theorem nine_lit : nineL = nineS := text_same (by rw [Xv.nineS_size]; rfl) (by
  have h : ∀ t : Fin 32, byt nineL t.val = Xv.sA 9 t.val := by decide +kernel
  intro t ht
  unfold nineS Xv.tx
  rw [Lw.byt_piece (Xv.sA 9) 0 32 t ht (Xv.sA_lt (by decide)), Nat.zero_add]
  exact h ⟨t, ht⟩)
set_option maxHeartbeats 1000000 in
theorem public_any (k : ByteArray) (w : World) : Calls Try.prog 9 #[.string k] w fun e w' => e = .returned (.tuple #[.string (shS k nineS), .int .i64 (shE k nineS)]) ∧ Below w.heap.size w w' := by
  have HS : Hid (∀ v : World, Calls Try.prog 7 #[.string k, .string nineL] v fun e w' => e = .returned (.tuple #[.string (shS k nineS), .int .i64 (shE k nineS)]) ∧ Below v.heap.size v w') := fun v => by rw [nine_lit]; exact shared_any k nineS v
  have hw := shE_wrap k nineS
  generalize shS k nineS = S at HS ⊢
  generalize shE k nineS = E at HS hw ⊢
  go_enter Try.func9, Try.ntmps9
  go_wp2_with (first | (go_at_call 7; refine (HS.out _).mono ?_; rintro e u1 ⟨rfl, hb⟩))
  go_ret2
  exact ⟨rfl, hb⟩
end Go.Proofs.Xd
