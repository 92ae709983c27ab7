/-
  The developers' X25519: a field's rest of any text; the ladder of a text.
-/
import Derived.Test.YtpniinolkflfjaaJobm
import Derived.Laws.BitsAllLaws
namespace Go.Proofs.Xe
open Go.RowKit
open Go.Proofs.Im (wpList_box_to words_heap words_one run_index_row)
open Go.Proofs.Sha (wordCells wordCells_get wordCells_size rowIs_of wpList_alloc_to wpList_build_to)
open Go.Proofs.Nt
open Go.Proofs.Nu (nmL nmA nmV nmA_one nmA_size results_row_slot)
open Go.Proofs.Nd (fdA fdV fdA_size fdA_one alloc_n alloc_f)
open Go.Proofs.Eo
open Go.Proofs.En (meetH)
open Go.Proofs.He (takeH load_row callH allocH storeH)
open Go.Proofs.Aes (byt byt_lt get_byt)
open Go.Proofs.Xu (rv rv_size rv_byt)
set_option maxHeartbeats 4000000 in
set_option maxRecDepth 20000 in
theorem frest_raw (p o x y : Nat) (s : ByteArray) (w : World) (hs : s.size = 32)
    (hN : ∀ u : World, Calls Try.prog 41 #[.string s] u fun e u' => e = .returned (nmV x) ∧ Below u.heap.size u u')
    (hR : ∀ u : World, Calls Try.prog 40 #[fdV p o, nmV x] u fun e u' => e = .returned (nmV y) ∧ Below u.heap.size u u') :
    Calls Try.prog 28 #[fdV p o, .string s] w fun e u => e = .returned (.tuple #[nmV y, .bool true]) ∧ Below w.heap.size w u := by
  have HNu := Lib.hid hN
  have HRe := Lib.hid hR
  have hz : ((s.size : Int) != 32) = false := by rw [hs]; rfl
  clear hN hR hs
  go_enter Try.func28, Try.ntmps28
  go_upto_region 0 with (fail)
  apply wp_region_lit
  refine wpList_box_to rfl 40 _ rfl (fdA p o) (by kernel_rfl) w.heap.size rfl ?_
  refine wpList_alloc_to rfl 38 rfl (nmA (lb 0)) (w.heap.size + 1) (by simp) alloc_n ?_
  have HM : Hid (Env w ((w.alloc (.cells (fdA p o) 40)).alloc (.cells (nmA (lb 0)) 38)) (w.heap.size + 2) [((w.heap.size + 1), (38, nmA (lb 0))), (w.heap.size, (40, fdA p o))]) := (((Env.start w).new rfl 40 (fdA p o)).new (by simp) 38 (nmA (lb 0)))
  generalize ((w.alloc (.cells (fdA p o) 40)).alloc (.cells (nmA (lb 0)) 38)) = w1 at HM ⊢
  refine Lw.wpList_val rfl (.bool false) w1 (by go_simp) ?_
  simp only [Act.put, List.setIfInBounds_toArray, List.set_cons_zero, List.set_cons_succ]
  go_upto_region 3 with (fail)
  clear hz
  have hSd := HM.out.drew
  clear HM
  refine wp_region_held (S := fun u => ∃ y0 : Array Value, Env w u (w.heap.size + 2) [((w.heap.size + 1), (38, y0)), (w.heap.size, (40, fdA p o))]) (by kernel_rfl) ?_
  change wpAnyH _ _ _ _ _ _ _ _ w1.drew
  have HX := Lib.hid hSd
  have HSx : Hid ((fun u => ∃ y0 : Array Value, Env w u (w.heap.size + 2) [((w.heap.size + 1), (38, y0)), (w.heap.size, (40, fdA p o))]) w1.drew) := ⟨nmA (lb 0), hSd⟩
  clear hSd
  generalize w1.drew = wd at HX HSx ⊢
  refine takeH (i := 0) (some 10) (.agg (fdA p o)) rfl rfl rfl (by kernel_rfl) (by kernel_rfl) (by kernel_rfl) (fun _ _ _ h => h) (load_row 40 _ rfl w.heap.size (by kernel_rfl) 40 (fdA p o) (0, 0) _ Try.underlying40 rfl (by kernel_rfl) (fun w h => by obtain ⟨y0, h⟩ := h; exact h.get 1 rfl)) HSx.out ?_
  simp only [Act.put, List.setIfInBounds_toArray, List.set_cons_zero, List.set_cons_succ]
  refine takeH (i := 1) (some 11) (.string s) rfl rfl rfl (by kernel_rfl) (by kernel_rfl) (by kernel_rfl) (fun _ _ _ h => h) (fun w _ => by go_simp) HSx.out ?_
  simp only [Act.put, List.setIfInBounds_toArray, List.set_cons_zero, List.set_cons_succ]
  refine wpAnyH_ready (rs := [2]) (by kernel_rfl) (by simp) ?_
  refine callH (some 12) rfl rfl rfl 41 _ _ rfl (fun _ _ => by go_simp) #[.string s] (by kernel_rfl) ?_ AllReadyH.nil
  refine (HNu.out wd).mono ?_
  rintro e uc0 ⟨rfl, hb⟩
  have HX := Lib.hid (HX.out.on hb)
  refine ⟨_, rfl, ⟨nmA (lb 0), HX.out⟩, ?_⟩
  clear hb
  simp only [Act.put, List.setIfInBounds_toArray, List.set_cons_zero, List.set_cons_succ]
  refine wpAnyH_ready (rs := [3]) (by kernel_rfl) (by simp) ?_
  refine callH (some 13) rfl rfl rfl 40 _ _ rfl (fun _ _ => by go_simp) #[fdV p o, nmV x] (by kernel_rfl) ?_ AllReadyH.nil
  refine (HRe.out uc0).mono ?_
  rintro e uc1 ⟨rfl, hb⟩
  have HX := Lib.hid (HX.out.on hb)
  refine ⟨_, rfl, ⟨nmA (lb 0), HX.out⟩, ?_⟩
  clear hb
  simp only [Act.put, List.setIfInBounds_toArray, List.set_cons_zero, List.set_cons_succ]
  have hput : Env w (uc1.setRow (w.heap.size + 1) (nmA (lb y))) (w.heap.size + 2) [((w.heap.size + 1), (38, nmA (lb y))), (w.heap.size, (40, fdA p o))] := HX.out.put 0 (A := nmA (lb 0)) rfl (nmA (lb y))
  refine wpAnyH_ready (rs := [4]) (by kernel_rfl) (by simp) ?_
  refine storeH rfl rfl rfl 38 _ _ rfl (w.heap.size + 1) (nmA (lb y)) (by kernel_rfl) (by kernel_rfl) 38 _ (HX.out.get 0 rfl) (by kernel_rfl) (by first | rw [nmA_size, nmA_size] | rfl) (nmA_one _) ⟨nmA (lb y), hput⟩ ?_ AllReadyH.nil
  have HX := Lib.hid hput
  clear hput
  generalize uc1.setRow (w.heap.size + 1) (nmA (lb y)) = ws0 at HX ⊢
  simp only [Act.put]
  refine takeH (i := 5) (some 5) (.bool true) rfl rfl rfl (by kernel_rfl) (by kernel_rfl) (by kernel_rfl) (fun _ _ _ h => h) (fun w _ => by go_simp) ⟨nmA (lb y), HX.out⟩ ?_
  simp only [Act.put, List.setIfInBounds_toArray, List.set_cons_zero, List.set_cons_succ]
  refine wpAnyH_done (by kernel_rfl) ?_ _
  have HM := HX
  clear HX HSx
  generalize ws0 = wz at HM ⊢
  obtain ⟨A, hA⟩ : ∃ A, nmA (lb y) = A := ⟨_, rfl⟩
  have HN := Lib.hid (HM.out.get 0 (g := (w.heap.size + 1)) (t := 38) (A := nmA (lb y)) rfl)
  rw [hA] at HN
  go_wp2_with (fail)
  refine bodyPost_ret (v := .tuple #[.agg A, .bool true]) ?_ rfl ?_
  · exact results_row_slot (fn := Try.f28) Try.results28 _ _ (w.heap.size + 1) 38 _ (0, 0) _ _ rfl rfl HN.out Try.underlying38 rfl (by rw [← hA]; kernel_rfl)
  · exact ⟨by rw [← hA]; rfl, HM.out.below⟩
theorem env_cellFar {w u : World} {n : Nat} {bs : List (Nat × Row)} (h : Env w u n bs) {g : Nat} (j : Nat) (v : Value) (hg : ∀ (k : Nat) (x : Row), ¬ bs[k]? = some (g, x)) (hw : w.heap.size ≤ g) : Env w (u.setCell ⟨g, j, none⟩ v) n bs :=
  h.chg bs (fun k g' x e => ⟨x, e⟩) (((Below.refl _ _).mono h.below.size).setCell (p := ⟨g, j, none⟩) hw v) (by simp) fun k g' x e =>
    (Below.heap_setCell u ⟨g, j, none⟩ v g' (fun c => by subst c; exact hg k x e)).trans (h.have_ k g' x e).2.2
theorem Seg.far {u : World} {g k o n : Nat} {X : Nat → Nat} (h : Seg u k o n X) (A : Array Value) (hk : k ≠ g) : Seg (u.setRow g A) k o n X :=
  h.but (g := g) ⟨rfl, rfl, rfl, Nat.le_of_eq (En.setRow_size u g A).symm, fun _ _ hi => En.setRow_far A hi⟩ hk
/-- Rows in blocks, and a text's bytes beside them. -/
structure Ev (w u : World) (n : Nat) (bs : List (Nat × Row)) (g : Nat) (Y : Nat → Nat) : Prop where
  env : Env w u n bs
  lt : g < n
  seg : Seg u g 0 32 Y
section
variable {w u v : World} {n g : Nat} {bs : List (Nat × Row)} {Y : Nat → Nat}
theorem Ev.on (h : Ev w u n bs g Y) (hb : Below u.heap.size u v) : Ev w v n bs g Y := ⟨h.env.on hb, h.lt, h.seg.on hb⟩
theorem Ev.drew (h : Ev w u n bs g Y) : Ev w u.drew n bs g Y := ⟨h.env.drew, h.lt, h.seg.drew⟩
theorem Ev.alloc (h : Ev w u n bs g Y) (ob : Obj) : Ev w (u.alloc ob) n bs g Y := h.on ((Below.refl _ _).alloc (Nat.le_refl _) ob)
theorem Ev.far (h : Ev w u n bs g Y) {k : Nat} (A : Array Value) (hk : n ≤ k) : Ev w (u.setRow k A) n bs g Y := ⟨h.env.far A hk, h.lt, h.seg.far A (by have := h.lt; omega)⟩
end
/-- The last byte's highest bit struck. -/
def ub (u : ByteArray) (i : Nat) : Nat := if i = 31 then byt u 31 &&& 127 else byt u i
set_option maxHeartbeats 4000000 in
set_option maxRecDepth 20000 in
theorem ladderAt_raw (p o ux : Nat) (ut : ByteArray) (w : World) (hu : ut.size = 32)
    (hO : ∀ v : World, Calls Try.prog 27 #[.int .i64 2] v fun e v' => e = .returned (.tuple #[fdV p o, .bool true]) ∧ Below v.heap.size v v')
    (hR : ∀ v : World, Calls Try.prog 28 #[fdV p o, .string (rv (Lw.pieceS (ub ut) 0 32))] v fun e v' => e = .returned (.tuple #[nmV ux, .bool true]) ∧ Below v.heap.size v v') :
    Calls Try.prog 13 #[.string ut] w fun e v => e = .returned (.tuple #[ldV p o ux, .bool true]) ∧ Below w.heap.size w v := by
  have HOf := Lib.hid hO
  have HRs := Lib.hid hR
  have HU := Lib.hid hu
  have HRv : Hid (∀ v : World, Calls Try.prog 17 #[.string (Lw.pieceS (ub ut) 0 32)] v fun e v' => e = .returned (.string (rv (Lw.pieceS (ub ut) 0 32))) ∧ Below v.heap.size v v') := fun v => reversed_any _ v (Lw.pieceS_size _ _ _)
  have hz : ((ut.size : Int) != 32) = false := by rw [hu]; rfl
  have l31 := byt_lt ut 31
  have e1 : bits .and .u8 (byt ut 31 : Int) 127 = ((byt ut 31 &&& 127 : Nat) : Int) := u8_and_nat (byt ut 31) 127 l31 (by decide)
  clear hO hR hu
  go_enter Try.func13, Try.ntmps13
  go_upto_region 0 with (fail)
  apply wp_region_lit
  refine wpList_alloc_to rfl 42 rfl (ldA 0 0 0) w.heap.size rfl alloc_l ?_
  have HM : Hid (Env w (w.alloc (.cells (ldA 0 0 0) 42)) (w.heap.size + 1) [(w.heap.size, (42, ldA 0 0 0))]) := ((Env.start w).new rfl 42 (ldA 0 0 0))
  generalize (w.alloc (.cells (ldA 0 0 0) 42)) = w1 at HM ⊢
  refine Lw.wpList_val rfl (.bool false) w1 (by go_simp) ?_
  simp only [Act.put, List.setIfInBounds_toArray, List.set_cons_zero, List.set_cons_succ]
  go_upto_region 1 with (fail)
  apply wp_region_lit
  refine Lw.wpList_callTo (some 9) rfl rfl 27 _ _ rfl (fun _ _ => by go_simp) #[.int .i64 2] (by kernel_rfl) ?_
  refine (HOf.out w1).mono ?_
  rintro e u1 ⟨rfl, hb⟩
  refine ⟨_, rfl, ?_⟩
  have HM := Lib.hid (HM.out.on hb)
  clear hb
  simp only [Act.put, List.setIfInBounds_toArray, List.set_cons_zero, List.set_cons_succ]
  refine Lw.wpList_val rfl (.tuple #[fdV p o, .bool true]) u1 (by go_simp) ?_
  simp only [Act.put, List.setIfInBounds_toArray, List.set_cons_zero, List.set_cons_succ]
  refine Lw.wpList_val rfl (fdV p o) u1 (by go_simp) ?_
  simp only [Act.put, List.setIfInBounds_toArray, List.set_cons_zero, List.set_cons_succ]
  refine Lw.wpList_val rfl (.bool true) u1 (by go_simp) ?_
  simp only [Act.put, List.setIfInBounds_toArray, List.set_cons_zero, List.set_cons_succ]
  refine wpList_alloc_to rfl 40 rfl (fdA 0 0) u1.heap.size rfl alloc_f ?_
  simp only [Act.put, List.setIfInBounds_toArray, List.set_cons_zero, List.set_cons_succ]
  refine wpList_store_row rfl 40 _ _ rfl u1.heap.size (fdA p o) (by kernel_rfl) (by kernel_rfl) 40 _ (heap_alloc_last _ _) (by kernel_rfl) (by first | rw [nmA_size, nmA_size] | rfl) (fdA_one _ _) ?_
  rw [World.setRow_alloc_new]
  simp only [Act.put]
  have HM := Lib.hid ((HM.out.alloc (.cells (fdA p o) 40)).cons (HM.out.size) (Cell.new 40 u1 (fdA p o)))
  generalize u1.alloc (.cells (fdA p o) 40) = w2 at HM ⊢
  generalize u1.heap.size = q4 at HM ⊢
  generalize q4 + 1 = n1 at HM
  refine Lw.wpList_val rfl (.bool true) w2 (by go_simp) ?_
  simp only [Act.put, List.setIfInBounds_toArray, List.set_cons_zero, List.set_cons_succ]
  have hbr := bytes_run w2 ut
  have HS := Lib.hid (bytes_seg w2 ut)
  have hbb := bytes_below w2 ut
  obtain ⟨c, hc⟩ : ∃ c, grownCap w2 ut.size 0 5 = c := ⟨_, rfl⟩
  rw [hc, HU.out] at hbr
  rw [HU.out] at HS
  have HG : Hid (n1 ≤ w2.heap.size) := HM.out.size
  have HM := Lib.hid (HM.out.on hbb)
  have hsz := bytesW_size w2 ut
  clear hc hbb
  generalize bytesW w2 ut = w3 at hbr HS HM hsz
  generalize w2.heap.size = g at hbr HS HG hsz
  go_upto_region 5 with (fail)
  clear hbr hz
  have c0 : w3.cell? ⟨g, 31, none⟩ = some (.int .u8 (byt ut 31 : Nat)) := by have := (HS.out.2 31 (by decide)).1; rwa [Nat.zero_add] at this
  have f0 : w3.frozen? ⟨g, 31, none⟩ = false := by have := (HS.out.2 31 (by decide)).2; rwa [Nat.zero_add] at this
  go_upto_region 6 with (fail)
  have HM : Hid (Ev w (w3.setCell ⟨g, 31, none⟩ (.int .u8 (byt ut 31 &&& 127 : Nat))) (g + 1) [(q4, (40, fdA p o)), (w.heap.size, (42, ldA 0 0 0))] g (ub ut)) := ⟨((env_cellFar HM.out 31 (.int .u8 (byt ut 31 &&& 127 : Nat)) (HM.out.old HG.out) (Nat.le_trans HM.out.base HG.out)).grow HG.out (by have := hsz; simp; omega)).grow (show g ≤ g + 1 by omega) (by have := hsz; simp; omega), Nat.lt_succ_self g, HS.out.set 31 (byt ut 31 &&& 127) (by decide)⟩
  clear HG hsz c0 f0 HS
  generalize w3.setCell ⟨g, 31, none⟩ (.int .u8 (byt ut 31 &&& 127 : Nat)) = w4 at HM ⊢
  obtain ⟨T, hT⟩ : ∃ T, Lw.pieceS (ub ut) 0 32 = T := ⟨_, rfl⟩
  have HTx := Lib.hid hT
  rw [hT] at HRv HRs
  clear hT e1 l31
  have hSd := HM.out.drew
  clear HM
  refine wp_region_held (S := fun u => Ev w u (g + 1) [(q4, (40, fdA p o)), (w.heap.size, (42, ldA 0 0 0))] g (ub ut)) (by kernel_rfl) ?_
  change wpAnyH _ _ _ _ _ _ _ _ w4.drew
  have HSx := Lib.hid hSd
  clear hSd
  generalize w4.drew = wd at HSx ⊢
  refine takeH (i := 0) (some 28) (.agg (fdA p o)) rfl rfl rfl (by kernel_rfl) (by kernel_rfl) (by kernel_rfl) (fun _ _ _ h => h) (load_row 40 _ rfl q4 (by kernel_rfl) 40 (fdA p o) (0, 0) _ Try.underlying40 rfl (by kernel_rfl) (fun w h => h.env.get 0 rfl)) HSx.out ?_
  simp only [Act.put, List.setIfInBounds_toArray, List.set_cons_zero, List.set_cons_succ]
  refine takeH (i := 1) (some 29) (.slice (some ⟨g, 0, none⟩) 32 c) rfl rfl rfl (by kernel_rfl) (by kernel_rfl) (by kernel_rfl) (fun _ _ _ h => h) (fun w _ => by go_simp) HSx.out ?_
  simp only [Act.put, List.setIfInBounds_toArray, List.set_cons_zero, List.set_cons_succ]
  refine takeH (i := 2) (some 30) (.string T) rfl rfl rfl (by kernel_rfl) (by kernel_rfl) (by kernel_rfl) (fun _ _ _ h => h) (fun v h => by have hcv := h.seg.text c; rw [HTx.out] at hcv; go_simp) HSx.out ?_
  simp only [Act.put, List.setIfInBounds_toArray, List.set_cons_zero, List.set_cons_succ]
  refine meetH (fun (x : Nat) a => ((((((a.put (some 31) (.string (rv T))).put (some 32) (.tuple #[nmV ux, .bool true])).put (some 27) (.tuple #[nmV ux, .bool true])).put (some 33) (nmV ux)).put (some 34) (.bool true)).put (some 7) (.pointer (some ⟨x, 0, none⟩)))) #[true, true, true, true, true, true, true, true, true, false, false] 2 (fun (x : Nat) W => (Ev w W (g + 1) [(q4, (40, fdA p o)), (w.heap.size, (42, ldA 0 0 0))] g (ub ut)) ∧ ((g + 1) ≤ x ∧ Cell W x (38, nmA (lb 0)))) ?_ (fun key2_00 => ?_)
  · rintro q7 W ⟨hS, ⟨hn0, hc0⟩⟩
    simp only [Act.put, List.setIfInBounds_toArray, List.set_cons_zero, List.set_cons_succ]
    have HE := Lib.hid hS
    have C0 := Lib.hid hc0
    refine wpAnyH_ready (rs := [9]) (by kernel_rfl) (by simp) ?_
    refine storeH rfl rfl rfl 38 _ _ rfl q7 (nmA (lb ux)) (by kernel_rfl) (by kernel_rfl) 38 _ C0.out (by kernel_rfl) (by first | rw [nmA_size, nmA_size] | rfl) (nmA_one _) (HE.out.far _ hn0) ?_ AllReadyH.nil
    have HE := Lib.hid (HE.out.far (nmA (lb ux)) hn0)
    have C0 := Lib.hid (C0.out.put (nmA (lb ux)))
    generalize W.setRow q7 (nmA (lb ux)) = ws0 at HE C0 ⊢
    simp only [Act.put, List.setIfInBounds_toArray, List.set_cons_zero, List.set_cons_succ]
    refine takeH (i := 10) (some 5) (.bool true) rfl rfl rfl (by kernel_rfl) (by kernel_rfl) (by kernel_rfl) (fun _ _ _ h => h) (fun w _ => by go_simp) HE.out ?_
    simp only [Act.put, List.setIfInBounds_toArray, List.set_cons_zero, List.set_cons_succ]
    refine wpAnyH_done (by kernel_rfl) ?_ _
    have HEV := HE
    have HE := Lib.hid HEV.out.env
    have HM := Lib.hid ((HE.out).add (Nat.le_trans HE.out.base hn0) (HE.out.old hn0) C0.out)
    clear HE C0 hn0 hc0 
    generalize ws0.heap.size = n2 at HM
    generalize ws0 = wz at HM ⊢
    go_upto_region 7 with (fail)
    apply wp_region_lit
    refine wpList_load_row rfl 40 _ rfl q4 (by kernel_rfl) 40 (fdA p o) (0, 0) _ (HM.out.get 1 rfl) Try.underlying40 rfl (by kernel_rfl) ?_
    simp only [Act.put, List.setIfInBounds_toArray, List.set_cons_zero, List.set_cons_succ]
    refine wpList_load_row rfl 38 _ rfl q7 (by kernel_rfl) 38 (nmA (lb ux)) (0, 0) _ (HM.out.get 0 rfl) Try.underlying38 rfl (by kernel_rfl) ?_
    simp only [Act.put, List.setIfInBounds_toArray, List.set_cons_zero, List.set_cons_succ]
    refine wpList_build_to rfl 42 _ rfl (ldA p o ux) (by kernel_rfl) ?_
    simp only [Act.put, List.setIfInBounds_toArray, List.set_cons_zero, List.set_cons_succ]
    refine Lw.wpList_val rfl (.bool true) wz (by go_simp) ?_
    simp only [Act.put, List.setIfInBounds_toArray, List.set_cons_zero, List.set_cons_succ]
    have hput : Env w (wz.setRow w.heap.size (ldA p o ux)) n2 [(q7, (38, nmA (lb ux))), (q4, (40, fdA p o)), (w.heap.size, (42, ldA p o ux))] := HM.out.put 2 (A := ldA 0 0 0) rfl (ldA p o ux)
    refine wpList_store_row rfl 42 _ _ rfl w.heap.size (ldA p o ux) (by kernel_rfl) (by kernel_rfl) 42 _ (HM.out.get 2 rfl) (by kernel_rfl) (by first | rw [nmA_size, nmA_size] | rfl) (ldA_one _ _ _) ?_
    have HM := Lib.hid hput
    clear hput
    generalize wz.setRow w.heap.size (ldA p o ux) = w5 at HM ⊢
    simp only [Act.put]
    refine Lw.wpList_val rfl (.bool true) w5 (by go_simp) ?_
    simp only [Act.put, List.setIfInBounds_toArray, List.set_cons_zero, List.set_cons_succ]
    obtain ⟨A, hA⟩ : ∃ A, ldA p o ux = A := ⟨_, rfl⟩
    have HN := Lib.hid (HM.out.get 2 (g := w.heap.size) (t := 42) (A := ldA p o ux) rfl)
    rw [hA] at HN
    go_wp2_with (fail)
    refine bodyPost_ret (v := .tuple #[.agg A, .bool true]) ?_ rfl ?_
    · exact results_row_slot (fn := Try.f13) Try.results13 _ _ (w.heap.size) 42 _ (0, 0) _ _ rfl rfl HN.out Try.underlying42 rfl (by rw [← hA]; kernel_rfl)
    · exact ⟨by rw [← hA]; rfl, HM.out.below⟩
  simp only [Act.put, List.setIfInBounds_toArray, List.set_cons_zero, List.set_cons_succ] at key2_00
  have key2_0 := Lib.hid key2_00
  clear key2_00
  refine meetH (fun (x : Nat) a => ((a.put (some 31) (.string (rv T))).put (some 7) (.pointer (some ⟨x, 0, none⟩)))) #[true, true, true, true, false, false, false, false, true, false, false] 6 (fun (x : Nat) W => (Ev w W (g + 1) [(q4, (40, fdA p o)), (w.heap.size, (42, ldA 0 0 0))] g (ub ut)) ∧ ((g + 1) ≤ x ∧ Cell W x (38, nmA (lb 0)))) ?_ (fun key1_00 => ?_)
  · rintro q7 W ⟨hS, ⟨hn0, hc0⟩⟩
    simp only [Act.put, List.setIfInBounds_toArray, List.set_cons_zero, List.set_cons_succ]
    refine wpAnyH_ready (rs := [4]) (by kernel_rfl) (by simp) ?_
    refine callH (some 32) rfl rfl rfl 28 _ _ rfl (fun _ _ => by go_simp) #[fdV p o, .string (rv T)] (by kernel_rfl) ?_ AllReadyH.nil
    · refine (HRs.out W).mono ?_
      rintro e u ⟨rfl, hb⟩
      refine ⟨_, rfl, hS.on hb, ?_⟩
      simp only [Act.put, List.setIfInBounds_toArray, List.set_cons_zero, List.set_cons_succ]
      refine takeH (i := 5) (some 27) (.tuple #[nmV ux, .bool true]) rfl rfl rfl (by kernel_rfl) (by kernel_rfl) (by kernel_rfl) (fun _ _ _ h => h) (fun w _ => by go_simp) (hS.on hb) ?_
      simp only [Act.put, List.setIfInBounds_toArray, List.set_cons_zero, List.set_cons_succ]
      refine takeH (i := 6) (some 33) (nmV ux) rfl rfl rfl (by kernel_rfl) (by kernel_rfl) (by kernel_rfl) (fun _ _ _ h => h) (fun w _ => by go_simp) (hS.on hb) ?_
      simp only [Act.put, List.setIfInBounds_toArray, List.set_cons_zero, List.set_cons_succ]
      refine takeH (i := 7) (some 34) (.bool true) rfl rfl rfl (by kernel_rfl) (by kernel_rfl) (by kernel_rfl) (fun _ _ _ h => h) (fun w _ => by go_simp) (hS.on hb) ?_
      simp only [Act.put, List.setIfInBounds_toArray, List.set_cons_zero, List.set_cons_succ]
      exact key2_0.out q7 _ ⟨hS.on hb, ⟨hn0, hc0.on hb⟩⟩
  simp only [Act.put, List.setIfInBounds_toArray, List.set_cons_zero, List.set_cons_succ] at key1_00
  have key1_0 := Lib.hid key1_00
  clear key1_00
  refine meetH (fun (x : Nat) a => (((((a.put (some 31) (.string (rv T))).put (some 32) (.tuple #[nmV ux, .bool true])).put (some 27) (.tuple #[nmV ux, .bool true])).put (some 33) (nmV ux)).put (some 34) (.bool true))) #[true, true, true, true, true, true, true, true, false, false, false] 3 (fun (_ : Nat) W => (Ev w W (g + 1) [(q4, (40, fdA p o)), (w.heap.size, (42, ldA 0 0 0))] g (ub ut))) ?_ (fun key2_0 => ?_)
  · rintro q7 W hS
    simp only [Act.put, List.setIfInBounds_toArray, List.set_cons_zero, List.set_cons_succ]
    refine wpAnyH_ready (rs := [8]) (by kernel_rfl) (by simp) ?_
    refine allocH (some 7) rfl rfl rfl 38 rfl (nmA (lb 0)) alloc_n (hS.alloc _) ?_ AllReadyH.nil
    · simp only [Act.put, List.setIfInBounds_toArray, List.set_cons_zero, List.set_cons_succ]
      exact key2_0.out W.heap.size _ ⟨hS.alloc _, ⟨hS.env.size, Cell.new _ _ _⟩⟩
  simp only [Act.put, List.setIfInBounds_toArray, List.set_cons_zero, List.set_cons_succ] at key2_0
  have key2_ := Lib.hid key2_0
  clear key2_0
  refine meetH (fun (x : Nat) a => (a.put (some 7) (.pointer (some ⟨x, 0, none⟩)))) #[true, true, true, false, false, false, false, false, true, false, false] 7 (fun (x : Nat) W => (Ev w W (g + 1) [(q4, (40, fdA p o)), (w.heap.size, (42, ldA 0 0 0))] g (ub ut)) ∧ ((g + 1) ≤ x ∧ Cell W x (38, nmA (lb 0)))) ?_ (fun key0_00 => ?_)
  · rintro q7 W ⟨hS, ⟨hn0, hc0⟩⟩
    simp only [Act.put, List.setIfInBounds_toArray, List.set_cons_zero, List.set_cons_succ]
    refine wpAnyH_ready (rs := [3]) (by kernel_rfl) (by simp) ?_
    refine callH (some 31) rfl rfl rfl 17 _ _ rfl (fun _ _ => by go_simp) #[.string T] (by kernel_rfl) ?_ AllReadyH.nil
    · refine (HRv.out W).mono ?_
      rintro e u ⟨rfl, hb⟩
      refine ⟨_, rfl, hS.on hb, ?_⟩
      simp only [Act.put, List.setIfInBounds_toArray, List.set_cons_zero, List.set_cons_succ]
      exact key1_0.out q7 _ ⟨hS.on hb, ⟨hn0, hc0.on hb⟩⟩
  simp only [Act.put, List.setIfInBounds_toArray, List.set_cons_zero, List.set_cons_succ] at key0_00
  have key0_0 := Lib.hid key0_00
  clear key0_00
  refine meetH (fun (x : Nat) a => (a.put (some 31) (.string (rv T)))) #[true, true, true, true, false, false, false, false, false, false, false] 7 (fun (_ : Nat) W => (Ev w W (g + 1) [(q4, (40, fdA p o)), (w.heap.size, (42, ldA 0 0 0))] g (ub ut))) ?_ (fun key1_0 => ?_)
  · rintro q7 W hS
    simp only [Act.put, List.setIfInBounds_toArray, List.set_cons_zero, List.set_cons_succ]
    refine wpAnyH_ready (rs := [4, 8]) (by kernel_rfl) (by simp) ?_
    refine callH (some 32) rfl rfl rfl 28 _ _ rfl (fun _ _ => by go_simp) #[fdV p o, .string (rv T)] (by kernel_rfl) ?_ (allocH (some 7) rfl rfl rfl 38 rfl (nmA (lb 0)) alloc_n (hS.alloc _) ?_ AllReadyH.nil)
    · refine (HRs.out W).mono ?_
      rintro e u ⟨rfl, hb⟩
      refine ⟨_, rfl, hS.on hb, ?_⟩
      simp only [Act.put, List.setIfInBounds_toArray, List.set_cons_zero, List.set_cons_succ]
      refine takeH (i := 5) (some 27) (.tuple #[nmV ux, .bool true]) rfl rfl rfl (by kernel_rfl) (by kernel_rfl) (by kernel_rfl) (fun _ _ _ h => h) (fun w _ => by go_simp) (hS.on hb) ?_
      simp only [Act.put, List.setIfInBounds_toArray, List.set_cons_zero, List.set_cons_succ]
      refine takeH (i := 6) (some 33) (nmV ux) rfl rfl rfl (by kernel_rfl) (by kernel_rfl) (by kernel_rfl) (fun _ _ _ h => h) (fun w _ => by go_simp) (hS.on hb) ?_
      simp only [Act.put, List.setIfInBounds_toArray, List.set_cons_zero, List.set_cons_succ]
      refine takeH (i := 7) (some 34) (.bool true) rfl rfl rfl (by kernel_rfl) (by kernel_rfl) (by kernel_rfl) (fun _ _ _ h => h) (fun w _ => by go_simp) (hS.on hb) ?_
      simp only [Act.put, List.setIfInBounds_toArray, List.set_cons_zero, List.set_cons_succ]
      exact key2_.out 0 _ (hS.on hb)
    · simp only [Act.put, List.setIfInBounds_toArray, List.set_cons_zero, List.set_cons_succ]
      exact key1_0.out W.heap.size _ ⟨hS.alloc _, ⟨hS.env.size, Cell.new _ _ _⟩⟩
  simp only [Act.put, List.setIfInBounds_toArray, List.set_cons_zero, List.set_cons_succ] at key1_0
  have key1_ := Lib.hid key1_0
  clear key1_0
  refine wpAnyH_ready (rs := [3, 8]) (by kernel_rfl) (by simp) ?_
  refine callH (some 31) rfl rfl rfl 17 _ _ rfl (fun _ _ => by go_simp) #[.string T] (by kernel_rfl) ?_ (allocH (some 7) rfl rfl rfl 38 rfl (nmA (lb 0)) alloc_n (HSx.out.alloc _) ?_ AllReadyH.nil)
  · refine (HRv.out wd).mono ?_
    rintro e u ⟨rfl, hb⟩
    refine ⟨_, rfl, HSx.out.on hb, ?_⟩
    simp only [Act.put, List.setIfInBounds_toArray, List.set_cons_zero, List.set_cons_succ]
    exact key1_.out 0 _ (HSx.out.on hb)
  · simp only [Act.put, List.setIfInBounds_toArray, List.set_cons_zero, List.set_cons_succ]
    exact key0_0.out wd.heap.size _ ⟨HSx.out.alloc _, ⟨HSx.out.env.size, Cell.new _ _ _⟩⟩
end Go.Proofs.Xe
