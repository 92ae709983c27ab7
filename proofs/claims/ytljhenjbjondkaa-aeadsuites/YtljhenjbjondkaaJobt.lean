/-
  The developers' chacha: a text under a state's blocks.
-/
import Derived.Test.YtljhenjbjondkaaJobs
namespace Go.Proofs.Cd
open Go.RowKit
open Go.Proofs.Cha
open Go.Proofs.Aes (byt byt_lt get_byt)
open Go.Proofs.Im (wpList_box_to words_heap words_one run_index_row)
open Go.Proofs.Sha (wordCells wordCells_get wordCells_size rowIs_of wpList_alloc_to)
theorem chaB_lt (X : Nat → Nat) (t : Nat) : chaB X t < 256 := Nat.mod_lt _ (by decide)
theorem chaS_byt (key : ByteArray) (cnt : Nat) (nonce : ByteArray) (t : Nat) (h : t < 64) : byt (chaS key cnt nonce) t = chaB (ini key cnt nonce) t := by
  unfold chaS byt strOfNums
  rw [List.getD_eq_getElem?_getD]
  have := chaB_lt (ini key cnt nonce) t
  simp [h]
  omega
theorem ini_next (key : ByteArray) (c c' : Nat) (nonce : ByteArray) (t : Nat) : put (ini key c nonce) 12 c' t = ini key c' nonce t := by
  unfold put ini
  by_cases h : t = 12
  · subst h; simp
  · rw [if_neg h]; simp [h]
theorem ctr_a {cnt i x : Nat} (h : (cnt + i / 64) % 4294967296 = x) (h0 : i % 64 = 0) : (cnt + (i + 63) / 64) % 4294967296 = x := by omega
theorem ctr_b {cnt i x : Nat} (h : (cnt + i / 64) % 4294967296 = x) (h0 : i % 64 ≠ 0) : (cnt + (i + 63) / 64) % 4294967296 = (x + 1) % 4294967296 := by omega
theorem ctr_c {cnt i x : Nat} (h : (cnt + i / 64) % 4294967296 = x) : (cnt + (i + 1 + 63) / 64) % 4294967296 = (x + 1) % 4294967296 := by omega
theorem ctr_d (i : Nat) (h : (i + 1) % 64 ≠ 0) : (i + 1) / 64 = i / 64 := by omega
theorem plus1 (x : Nat) : ((x : Int) + 1) % 4294967296 = (((x + 1) % 4294967296 : Nat) : Int) := by omega
theorem neI {j : Nat} (h : ¬ j = 0) : ((j : Int) == 0) = false := by simp; omega
theorem neP {j : Nat} (h : ¬ j = 0) : ((j : Int) = 0) = False := eq_false (by omega)
theorem wrapS (n i : Nat) (hn : n ≤ 100000) (h : i < n) : wrap64 ((i : Int) + 1) = (i : Int) + 1 := by unfold wrap64; omega
theorem measW (n i : Nat) (hn : n ≤ 100000) (h : i < n) : n - (intOf (.int .i64 (wrap64 ((i : Int) + 1)))).toNat < n - (intOf (.int .i64 (i : Int))).toNat := by
  rw [wrapS n i hn h]; exact Lw.meas n i h
/-- The state, the text so far, the block. -/
def Msk (w u : World) (g1 g2 n : Nat) (S X m : Nat → Nat) : Prop := RC u w.heap.size S ∧ Lw.RowB u g1 n X ∧ RM u g2 m ∧ Below w.heap.size w u
theorem Msk.on {w u v : World} {g1 g2 n : Nat} {S X m : Nat → Nat} (h : Msk w u g1 g2 n S X m) (hb : Below u.heap.size u v) : Msk w v g1 g2 n S X m :=
  ⟨h.1.on hb, h.2.1.on hb, h.2.2.1.on hb, Lw.go_on h.2.2.2 hb⟩
theorem Msk.drew {w u : World} {g1 g2 n : Nat} {S X m : Nat → Nat} (h : Msk w u g1 g2 n S X m) : Msk w u.drew g1 g2 n S X m :=
  ⟨h.1.drew, h.2.1.drew, World.rowIs.drew h.2.2.1, h.2.2.2.drew⟩
theorem Msk.setB {w u : World} {g1 g2 n : Nat} {S X m : Nat → Nat} (h : Msk w u g1 g2 n S X m) (hg : w.heap.size < g1 ∧ g1 < g2) (i v : Nat) : Msk w (u.setCell ⟨g1, i, none⟩ (.int .u8 v)) g1 g2 n S (fun t => if t = i then v else X t) m :=
  ⟨h.1.other (by show w.heap.size ≠ g1; omega) _, h.2.1.set i v, h.2.2.1.other (by show g2 ≠ g1; omega) _, h.2.2.2.setCell (by show w.heap.size ≤ g1; omega) _⟩
theorem Msk.setM {w u : World} {g1 g2 n : Nat} {S X m : Nat → Nat} (h : Msk w u g1 g2 n S X m) (hg : w.heap.size < g1 ∧ g1 < g2) (k : Nat → Nat) : Msk w (u.setRow g2 (mA k)) g1 g2 n S X k :=
  ⟨World.rowIs.of_block h.1 (setRow_other _ _ _ _ (by omega)), World.rowIs.of_block h.2.1 (setRow_other _ _ _ _ (by omega)), h.2.2.1.setRow k, below_setRow h.2.2.2 (by omega) _⟩
theorem Msk.setC {w u : World} {g1 g2 n : Nat} {key nonce : ByteArray} {c : Nat} {X m : Nat → Nat} (h : Msk w u g1 g2 n (ini key c nonce) X m) (hg : w.heap.size < g1 ∧ g1 < g2) (c' : Nat) : Msk w (u.setCell ⟨w.heap.size, 12, none⟩ (.int .u32 c')) g1 g2 n (ini key c' nonce) X m :=
  ⟨(h.1.set 12 c').congr fun t _ => ini_next key c c' nonce t, World.rowIs.setOther h.2.1 (by show g1 ≠ w.heap.size; omega) _, h.2.2.1.other (by show g2 ≠ w.heap.size; omega) _, h.2.2.2.setCell (Nat.le_refl _) _⟩
set_option maxHeartbeats 4000000 in
set_option maxRecDepth 10000 in
theorem masked_any (key : ByteArray) (cnt : Nat) (nonce s : ByteArray) (w : World) (hc : cnt < 4294967296) (hs : s.size ≤ 100000) :
    Calls Try.prog 55 #[.agg (cA (ini key cnt nonce)), .string s] w fun e w' => e = .returned (.string (strS key cnt nonce s)) ∧ Below w.heap.size w w' := by
  have HCn := Lib.hid hc
  have HS := Lib.hid hs
  obtain ⟨M, hM, hMc, hmk⟩ := Lw.zeros s.size (by omega)
  clear hc hs
  go_enter Try.func55, Try.ntmps55
  go_upto_region 0 with (fail)
  apply wp_region_lit
  refine wpList_box_to rfl 83 _ rfl (cA (ini key cnt nonce)) rfl w.heap.size rfl ?_
  simp only [Act.put, List.setIfInBounds_toArray, List.set_cons_zero, List.set_cons_succ]
  have R1 := Lib.hid (RC.new w (ini key cnt nonce))
  have B1 : Hid (Below w.heap.size w (w.alloc (.cells (cA (ini key cnt nonce)) 83))) := (Below.refl _ _).alloc (Nat.le_refl _) _
  have G1 : Hid (w.heap.size < (w.alloc (.cells (cA (ini key cnt nonce)) 83)).heap.size) := by show _ < _; simp
  generalize w.alloc (.cells (cA (ini key cnt nonce)) 83) = w1 at R1 B1 G1 ⊢
  have T2 := Lib.hid (Lw.rowB_new w1 M s.size hM hMc)
  have R2 : Hid (RC (w1.alloc (.cells M 5)) w.heap.size (ini key cnt nonce)) := World.rowIs.alloc R1.out _
  have B2 := Lib.hid (B1.out.alloc B1.out.size (.cells M 5))
  have G2 : Hid (w1.heap.size < (w1.alloc (.cells M 5)).heap.size) := by show _ < _; simp
  clear hM hMc
  go_upto_region 2 with (fail)
  clear hmk R1 B1
  generalize w1.alloc (.cells M 5) = w2 at R2 B2 G2 T2 ⊢
  apply wp_region_lit
  refine wpList_alloc_to rfl 80 rfl (mA fun _ => 0) w2.heap.size rfl alloc64 ?_
  simp only [Act.put, List.setIfInBounds_toArray, List.set_cons_zero, List.set_cons_succ]
  have HR : Hid (Msk w (w2.alloc (.cells (mA fun _ => 0) 80)) w1.heap.size w2.heap.size s.size (ini key cnt nonce) (fun _ => 0) (fun _ => 0)) :=
    ⟨World.rowIs.alloc R2.out _, World.rowIs.alloc T2.out _, RM.new w2 _, B2.out.alloc B2.out.size _⟩
  have HG : Hid (w.heap.size < w1.heap.size ∧ w1.heap.size < w2.heap.size) := ⟨G1.out, G2.out⟩
  clear R2 B2 T2 G1 G2
  generalize w2.alloc (.cells (mA fun _ => 0) 80) = w3 at HR ⊢
  generalize w1.heap.size = g1 at HR HG ⊢
  generalize w2.heap.size = g2 at HR HG ⊢
  go_wp2_with (fail)
  go_loopw [13] (fun vi wx => ∃ (i : Nat) (X m : Nat → Nat), Hid (i ≤ s.size) ∧ vi = .int .i64 i ∧ Hid (i % 64 ≠ 0 → m = chaB (ini key ((cnt + i / 64) % 4294967296) nonce)) ∧ Hid (∀ t, t < i → X t = strB key cnt nonce s t) ∧ Hid (Msk w wx g1 g2 s.size (ini key ((cnt + (i + 63) / 64) % 4294967296) nonce) X m)) (fun i _ => s.size - (intOf i).toNat)
  case atStart => exact ⟨0, fun _ => 0, fun _ => 0, Nat.zero_le _, rfl, fun h => absurd rfl h, fun t ht => absurd ht (Nat.not_lt_zero t), by rw [show (cnt + (0 + 63) / 64) % 4294967296 = cnt by have := HCn.out; omega]; exact HR⟩
  case round =>
    clear HR
    obtain ⟨i, X, m, hi, rfl, hC, hX, HR⟩ := hrel
    by_cases hlt : i < s.size
    · have il : ((i : Int) < (s.size : Int)) = True := eq_true (by omega)
      have il2 : (i < s.size) = True := eq_true hlt
      have HI := Lib.hid hlt
      obtain ⟨j, hj⟩ : ∃ j, i % 64 = j := ⟨_, rfl⟩
      obtain ⟨x, hm⟩ : ∃ x, (cnt + i / 64) % 4294967296 = x := ⟨_, rfl⟩
      have HJ : Hid (j < 64) := by show j < 64; omega
      have HXl : Hid (x < 4294967296) := by show x < 4294967296; omega
      have q1 : (i : Int) % 64 = (j : Int) := by omega
      have q4 : (i : Int).tmod 64 = (j : Int) := by rw [Int.tmod_eq_emod_of_nonneg (by omega)]; exact q1
      have q5 := wrapS s.size i HS.out HI.out
      have HCt : Hid (strB key cnt nonce s i = byt s i ^^^ chaB (ini key x nonce) j) := by
        show _ = _
        unfold strB
        rw [hj, hm, chaS_byt _ _ _ _ HJ.out]
      have HJe := Lib.hid hj
      have HXe := Lib.hid hm
      rw [hj, hm] at hC
      clear hlt hi
      by_cases h0 : j = 0
      · have e0 : ((j : Int) == 0) = true := by rw [h0]; rfl
        have e1 : ((j : Int) = 0) = True := eq_true (by rw [h0]; rfl)
        rw [ctr_a hm (hj.trans h0)] at HR
        clear hC hj hm
        have HL := Lib.hid HR.out.1.heap
        have HBa := Lib.hid (fun W => block_any (ini key x nonce) W (ini_lt key x nonce HXl.out))
        have HY := Lib.hid (chaB_lt (ini key x nonce) j)
        generalize hBk : chaB (ini key x nonce) = Bk at HBa HCt HY
        have HBk : Hid (Bk = chaB (ini key x nonce)) := hBk.symm
        clear hBk
        generalize ini key x nonce = St at HL HBa
        go_upto_region 7 with (fail)
        apply wp_region_lit
        refine wpList_load_row rfl 83 _ rfl w.heap.size rfl 83 (cA St) (0, 0) _ HL.out Try.underlying83 rfl (by kernel_rfl) ?_
        refine Lw.wpList_callTo (some 20) rfl rfl 54 _ _ rfl (fun _ _ => by kernel_rfl) #[.agg (cA St)] (by kernel_rfl) ?_
        refine (HBa.out _).mono ?_
        rintro e u ⟨rfl, hb⟩
        refine ⟨_, rfl, ?_⟩
        have HR := Lib.hid (HR.out.on hb)
        clear hb HL HBa
        refine wpList_store_row rfl 80 _ _ rfl g2 (mA Bk) (by kernel_rfl) (by kernel_rfl) 80 (mA m) HR.out.2.2.1.heap (by rw [mA_size]; kernel_rfl) (by rw [mA_size, mA_size]) (mA_one _) ?_
        have HR := Lib.hid (HR.out.setM HG.out Bk)
        generalize u.setRow g2 (mA Bk) = v at HR ⊢
        simp only [Act.put, List.setIfInBounds_toArray, List.set_cons_zero, List.set_cons_succ]
        have c12 : v.cell? ⟨w.heap.size, 12, none⟩ = some (.int .u32 (x : Nat)) := by rw [World.rowIs.cell HR.out.1 (i := 12) (by decide)]; rfl
        have f12 := World.rowIs.frozen HR.out.1 12
        have a12 : ((x : Int) + 1) % 4294967296 = (((x + 1) % 4294967296 : Nat) : Int)   := plus1 x
        have HR := Lib.hid (HR.out.setC HG.out ((x + 1) % 4294967296))
        obtain ⟨x1, hx1⟩ : ∃ y, (x + 1) % 4294967296 = y := ⟨_, rfl⟩
        rw [hx1] at a12
        have HX1 := Lib.hid hx1
        rw [hx1] at HR
        clear hx1 h0
        go_upto_region 9 with (fail)
        clear c12 f12 a12
        generalize v.setCell ⟨w.heap.size, 12, none⟩ (.int .u32 (x1 : Nat)) = v2 at HR ⊢
        rw [← HX1.out] at HR
        clear HX1
        have ii : (i : Int) < (s.size : Int) := Int.ofNat_lt.2 HI.out
        have jl : (j : Int) < 64 := Int.ofNat_lt.2 HJ.out
        have cc := World.rowIs.cell HR.out.2.1 (i := i) HI.out
        have cf := World.rowIs.frozen HR.out.2.1 i
        have cm := World.rowIs.cell HR.out.2.2.1 (i := j) HJ.out
        have vs : ∀ h : i < s.size, (s[i]'h).toNat = byt s i := fun h => get_byt s _ h
        generalize X i = old at cc
        generalize Bk j = y at cm HCt HY
        go_wp2_with (fail)
        refine wp_region_still_tail 11 (by kernel_rfl) (by kernel_rfl) ?_
        simp only [List.take_succ_cons, List.take_zero, List.drop_succ_cons, List.drop_zero]
        repeat still_step
        try refine wpStill_nil ?_
        change wpList _ _ _ _ _ v2.drew
        clear vs ii jl cm
        go_wp2_with (fail)
        rw [Aes.u8_xor _ _ (byt_lt s i) HY.out]
        refine ⟨⟨i + 1, fun t => if t = i then byt s i ^^^ y else X t, Bk, HI.out, by go_num, ?_, fun t ht => ?_, ?_⟩, measW s.size i HS.out HI.out⟩
        · intro hne
          rw [ctr_d i hne, HXe.out]; exact HBk.out
        · show (if t = i then _ else X t) = _
          by_cases e : t = i
          · rw [if_pos e, e]; exact HCt.out.symm
          · rw [if_neg e]; exact hX.out t (Nat.lt_of_le_of_ne (Nat.le_of_lt_succ ht) e)
        · rw [ctr_c HXe.out]
          exact (HR.out.setB HG.out i _).drew
      · have e0 := neI h0
        have e1 := neP h0
        have HBk := Lib.hid (hC.out h0)
        have HY : Hid (m j < 256) := by rw [HBk.out]; exact chaB_lt _ _
        rw [← HBk.out] at HCt
        rw [ctr_b hm (fun h => h0 (hj.symm.trans h))] at HR
        clear hC hj hm h0
        have ii : (i : Int) < (s.size : Int) := Int.ofNat_lt.2 HI.out
        have jl : (j : Int) < 64 := Int.ofNat_lt.2 HJ.out
        have cc := World.rowIs.cell HR.out.2.1 (i := i) HI.out
        have cf := World.rowIs.frozen HR.out.2.1 i
        have cm := World.rowIs.cell HR.out.2.2.1 (i := j) HJ.out
        have vs : ∀ h : i < s.size, (s[i]'h).toNat = byt s i := fun h => get_byt s _ h
        generalize X i = old at cc
        generalize m j = y at cm HCt HY
        go_wp2_with (fail)
        refine wp_region_still_tail 11 (by kernel_rfl) (by kernel_rfl) ?_
        simp only [List.take_succ_cons, List.take_zero, List.drop_succ_cons, List.drop_zero]
        repeat still_step
        try refine wpStill_nil ?_
        change wpList _ _ _ _ _ wr.drew
        clear vs ii jl cm
        go_wp2_with (fail)
        rw [Aes.u8_xor _ _ (byt_lt s i) HY.out]
        refine ⟨⟨i + 1, fun t => if t = i then byt s i ^^^ y else X t, m, HI.out, by go_num, ?_, fun t ht => ?_, ?_⟩, measW s.size i HS.out HI.out⟩
        · intro hne
          rw [ctr_d i hne, HXe.out]; exact HBk.out
        · show (if t = i then _ else X t) = _
          by_cases e : t = i
          · rw [if_pos e, e]; exact HCt.out.symm
          · rw [if_neg e]; exact hX.out t (Nat.lt_of_le_of_ne (Nat.le_of_lt_succ ht) e)
        · rw [ctr_c HXe.out]
          exact (HR.out.setB HG.out i _).drew
    · have il : ((i : Int) < (s.size : Int)) = False := eq_false (by omega)
      have il2 : (i < s.size) = False := eq_false hlt
      obtain rfl : i = s.size := by have := hi.out; omega
      have X1 : Hid (Lw.RowB wr g1 s.size (strB key cnt nonce s)) := HR.out.2.1.congr fun t ht => hX.out t ht
      have hcv : (convert 27 9 (.slice (some ⟨g1, 0, none⟩) s.size s.size)).run Try.prog wr = .ok (.string (strS key cnt nonce s)) wr :=
        run_convert_bytes_arg (P := Try.prog) _ 27 5 Try.underlying27 Try.underlying5 g1 0 s.size s.size _ (by simp) (fun i hi => by
          have := World.rowIs.cell X1.out (i := i) hi
          rw [Nat.zero_add, this]
          simp [List.getD_eq_getElem?_getD, List.getElem?_range hi]) 9 Try.underlying9
      clear hlt hX hi hC
      go_wp2_with (fail)
      go_ret
      exact ⟨rfl, HR.out.2.2.2⟩
end Go.Proofs.Cd
