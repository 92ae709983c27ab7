/-
  The document's own answer for layer 9: powers and inverses.
-/
import Derived.Test.YtpniinolkflfjaaJoaw
namespace Go.Proofs.Nu
open Go.RowKit
open Go.Proofs.Im (wpList_box_to words_heap words_one run_index_row)
open Go.Proofs.Sha (wordCells wordCells_get wordCells_size rowIs_of wpList_alloc_to wpList_build_to)
open Go.Proofs.Nt
/-- A power's memory. -/
structure Pw (w u : World) (x e ge gr r : Nat) : Prop where
  a : Nm u w.heap.size x
  o : Nm u (w.heap.size + 1) 0
  e : Nm u ge e
  r : Nm u gr r
  below : Below w.heap.size w u
  g1 : w.heap.size + 1 < ge
  g2 : ge < gr
theorem Pw.on {w u v : World} {x e ge gr r : Nat} (h : Pw w u x e ge gr r) (hb : Below u.heap.size u v) : Pw w v x e ge gr r := ⟨h.a.on hb, h.o.on hb, h.e.on hb, h.r.on hb, Lw.go_on h.below hb, h.g1, h.g2⟩
theorem Pw.set {w u : World} {x e ge gr r : Nat} (h : Pw w u x e ge gr r) (s : Nat) : Pw w (u.setRow gr (nmA (lb s))) x e ge gr s := by
  have h1 := h.g1
  have h2 := h.g2
  exact ⟨h.a.ne (by omega) _, h.o.ne (by omega) _, h.e.ne (by omega) _, h.r.set s, below_setRow h.below (by omega) _, h1, h2⟩
theorem bit_of (e j : Nat) : lb e (j / 32) / 2 ^ (j % 32) % 2 = e / 2 ^ j % 2 := by
  unfold lb
  have h : (e / 2 ^ (32 * (j / 32)) % 2 ^ 32).testBit (j % 32) = (e / 2 ^ (32 * (j / 32))).testBit (j % 32) := by
    rw [Nat.testBit_mod_two_pow, decide_eq_true (Nat.mod_lt j (by decide)), Bool.true_and]
  rw [Nat.testBit_eq_decide_div_mod_eq, Nat.testBit_eq_decide_div_mod_eq, Nat.div_div_eq_div_mul, ← Nat.pow_add, show 32 * (j / 32) + j % 32 = j by omega] at h
  have h2 := decide_eq_decide.1 h
  have h3 : (4294967296 : Nat) = 2 ^ 32 := by decide
  rw [h3]
  omega
set_option maxHeartbeats 2000000 in
set_option maxRecDepth 20000 in
theorem power_any (z : Int) (A : Nat) (w : World) : Calls Try.prog 38 #[.int .i64 z, nmV (jm (md z) A)] w fun e w' => e = .returned (nmV (jm (md z) (A ^ (md z - 2)))) ∧ Below w.heap.size w w' := by
  have hml := md_lt z
  have h2 := (md_prime z).1
  have HMo := Lib.hid (fun u => modulus_any z u)
  have HIn := Lib.hid (fun u => into_any z 1 u (by omega))
  have HMi := Lib.hid (fun u => minus_any (md z) 2 u hml (by decide))
  have Hpr := Lib.hid (md_prime z)
  have Hnd := Lib.hid (md_256 z)
  have Hml := Lib.hid hml
  have Hjl := Lib.hid (fun y => jm_lt (md_pos z) y)
  have hee : (md z + B8 - 2) % B8 = md z - 2 := by
    rw [show md z + B8 - 2 = md z - 2 + B8 by omega, Nat.add_mod_right, Nat.mod_eq_of_lt (by omega)]
  have he0 : (md z - 2) / 2 ^ 256 = 0 := Nat.div_eq_of_lt (by rw [show (2 : Nat) ^ 256 = B8 from b8.symm]; omega)
  obtain ⟨m, hm⟩ : ∃ m, md z = m := ⟨_, rfl⟩
  have Hmd := Lib.hid hm
  rw [hm] at HMo HIn HMi Hpr Hnd Hml Hjl hee he0 ⊢
  obtain ⟨x, hx⟩ : ∃ x, jm m A = x := ⟨_, rfl⟩
  have Hxj := Lib.hid hx.symm
  rw [hx]
  generalize m - 2 = e at hee he0 ⊢
  have He0 : Hid (jm m (A ^ (e / 2 ^ 256)) = jm m 1) := by show _ = _; rw [he0, Nat.pow_zero]
  clear hml h2 hm hx he0
  go_enter Try.func38, Try.ntmps38
  go_upto_region 0 with (fail)
  apply wp_region_lit
  refine wpList_box_to rfl 50 _ rfl (nmA (lb x)) (by kernel_rfl) w.heap.size rfl ?_
  refine wpList_alloc_to rfl 50 rfl (nmA fun _ => 0) (w.heap.size + 1) (by simp) alloc8 ?_
  have HX : Hid (Nm ((w.alloc (.cells (nmA (lb x)) 50)).alloc (.cells (nmA fun _ => 0) 50)) w.heap.size x) := (Nm.new w x).alloc _
  have HO : Hid (Nm ((w.alloc (.cells (nmA (lb x)) 50)).alloc (.cells (nmA fun _ => 0) 50)) (w.heap.size + 1) 0) := by
    have h := Nm.new0 (w.alloc (.cells (nmA (lb x)) 50))
    rw [show (w.alloc (.cells (nmA (lb x)) 50)).heap.size = w.heap.size + 1 by simp] at h
    exact h
  have HB : Hid (Below w.heap.size w ((w.alloc (.cells (nmA (lb x)) 50)).alloc (.cells (nmA fun _ => 0) 50))) := ((Below.refl _ _).alloc (Nat.le_refl _) _).alloc (by simp) _
  generalize (w.alloc (.cells (nmA (lb x)) 50)).alloc (.cells (nmA fun _ => 0) 50) = w1 at HX HO HB ⊢
  go_upto_region 1 with (fail)
  apply wp_region_lit
  refine Lw.wpList_val rfl (.int .i64 z) w1 (by go_simp) ?_
  simp only [Act.put, List.setIfInBounds_toArray, List.set_cons_zero, List.set_cons_succ]
  refine Lw.wpList_callTo (some 9) rfl rfl 22 _ _ rfl (fun _ _ => by go_simp) #[.int .i64 z] (by kernel_rfl) ?_
  refine (HMo.out _).mono ?_
  rintro e u1 ⟨rfl, hb⟩
  refine ⟨_, rfl, ?_⟩
  have HX := Lib.hid (HX.out.on hb)
  have HO := Lib.hid (HO.out.on hb)
  have HB := Lib.hid (Lw.go_on HB.out hb)
  clear hb
  refine wpList_build_to rfl 50 _ rfl (nmA (lb 2)) (by kernel_rfl) ?_
  simp only [Act.put, List.setIfInBounds_toArray, List.set_cons_zero, List.set_cons_succ]
  refine Lw.wpList_callTo (some 11) rfl rfl 23 _ _ rfl (fun _ _ => by go_simp) #[nmV m, nmV 2] (by kernel_rfl) ?_
  refine (HMi.out _).mono ?_
  rintro e u2 ⟨rfl, hb⟩
  refine ⟨_, rfl, ?_⟩
  have HX := Lib.hid (HX.out.on hb)
  have HO := Lib.hid (HO.out.on hb)
  have HB := Lib.hid (Lw.go_on HB.out hb)
  clear hb
  rw [hee]
  refine wpList_alloc_to rfl 50 rfl (nmA fun _ => 0) u2.heap.size rfl alloc8 ?_
  refine wpList_store_row rfl 50 _ _ rfl u2.heap.size (nmA (lb e)) (by kernel_rfl) (by kernel_rfl) 50 _ (heap_alloc_last _ _) (by kernel_rfl) (by rw [nmA_size, nmA_size]) (nmA_one _) ?_
  rw [World.setRow_alloc_new]
  simp only [Act.put, List.setIfInBounds_toArray, List.set_cons_zero, List.set_cons_succ]
  have HE := Lib.hid (Nm.new u2 e)
  have HG : Hid (w.heap.size + 1 < u2.heap.size) := HO.out.lt
  have HX := Lib.hid (HX.out.alloc (.cells (nmA (lb e)) 50))
  have HO := Lib.hid (HO.out.alloc (.cells (nmA (lb e)) 50))
  have HB : Hid (Below w.heap.size w (u2.alloc (.cells (nmA (lb e)) 50))) := HB.out.alloc HB.out.size _
  generalize u2.alloc (.cells (nmA (lb e)) 50) = w2 at HE HX HO HB ⊢
  generalize u2.heap.size = ge at HE HG ⊢
  go_upto_region 2 with (fail)
  apply wp_region_lit
  refine Lw.wpList_val rfl (.int .i64 z) w2 (by go_simp) ?_
  refine wpList_build_to rfl 50 _ rfl (nmA (lb 1)) (by kernel_rfl) ?_
  simp only [Act.put, List.setIfInBounds_toArray, List.set_cons_zero, List.set_cons_succ]
  refine Lw.wpList_callTo (some 14) rfl rfl 26 _ _ rfl (fun _ _ => by go_simp) #[.int .i64 z, nmV 1] (by kernel_rfl) ?_
  refine (HIn.out _).mono ?_
  rintro e u3 ⟨rfl, hb⟩
  refine ⟨_, rfl, ?_⟩
  have HX := Lib.hid (HX.out.on hb)
  have HO := Lib.hid (HO.out.on hb)
  have HE := Lib.hid (HE.out.on hb)
  have HB := Lib.hid (Lw.go_on HB.out hb)
  clear hb
  refine wpList_alloc_to rfl 50 rfl (nmA fun _ => 0) u3.heap.size rfl alloc8 ?_
  refine wpList_store_row rfl 50 _ _ rfl u3.heap.size (nmA (lb (jm m 1))) (by kernel_rfl) (by kernel_rfl) 50 _ (heap_alloc_last _ _) (by kernel_rfl) (by rw [nmA_size, nmA_size]) (nmA_one _) ?_
  rw [World.setRow_alloc_new]
  simp only [Act.put, List.setIfInBounds_toArray, List.set_cons_zero, List.set_cons_succ]
  have HR := Lib.hid (Nm.new u3 (jm m 1))
  have HG2 : Hid (ge < u3.heap.size) := HE.out.lt
  have HX := Lib.hid (HX.out.alloc (.cells (nmA (lb (jm m 1))) 50))
  have HO := Lib.hid (HO.out.alloc (.cells (nmA (lb (jm m 1))) 50))
  have HE := Lib.hid (HE.out.alloc (.cells (nmA (lb (jm m 1))) 50))
  have HB : Hid (Below w.heap.size w (u3.alloc (.cells (nmA (lb (jm m 1))) 50))) := HB.out.alloc HB.out.size _
  generalize u3.alloc (.cells (nmA (lb (jm m 1))) 50) = w3 at HR HX HO HE HB ⊢
  generalize u3.heap.size = gr at HR HG2 ⊢
  have HP : Hid (Pw w w3 x e ge gr (jm m (A ^ (e / 2 ^ 256)))) := ⟨HX.out, HO.out, HE.out, by rw [He0.out]; exact HR.out, HB.out, HG.out, HG2.out⟩
  clear HX HO HE HR HB HG HG2 HMo HMi HIn hee He0
  go_wp2_with (fail)
  go_loopw [7] (fun v wx => ∃ i : Nat, Hid (i ≤ 256) ∧ v = .int .i64 ((i : Int) - 1) ∧ Hid (Pw w wx x e ge gr (jm m (A ^ (e / 2 ^ i))))) (fun v _ => (intOf v + 1).toNat)
  case atStart => exact ⟨256, Nat.le_refl _, rfl, HP⟩
  case round =>
    clear HP
    obtain ⟨i, hi, rfl, HP⟩ := hrel
    rcases Nat.eq_zero_or_pos i with rfl | hpos
    · clear hi
      rw [show (((0 : Nat) : Int) - 1) = -1 from rfl]
      rw [show e / 2 ^ 0 = e by rw [Nat.pow_zero, Nat.div_one]] at HP
      generalize hR : jm m (A ^ e) = R at HP
      have HR := Lib.hid HP.out.r
      have HO := Lib.hid HP.out.o
      have HB := Lib.hid HP.out.below
      clear HP
      go_upto_region 9 with (fail)
      apply wp_region_lit
      refine wpList_load_row rfl 50 _ rfl gr (by kernel_rfl) 50 (nmA (lb R)) (0, 0) _ HR.out Try.underlying50 rfl (by kernel_rfl) ?_
      simp only [Act.put, List.setIfInBounds_toArray, List.set_cons_zero, List.set_cons_succ]
      refine wpList_store_row rfl 50 _ _ rfl (w.heap.size + 1) (nmA (lb R)) (by kernel_rfl) (by kernel_rfl) 50 _ HO.out (by kernel_rfl) (by rw [nmA_size, nmA_size]) (nmA_one _) ?_
      simp only [Act.put]
      go_wp2_with (fail)
      refine bodyPost_ret (v := nmV R) ?_ rfl ?_
      · exact results_cell_row (fn := Try.f38) Try.results38 _ _ (w.heap.size + 1) 50 _ (0, 0) _ rfl (HO.out.set R) Try.underlying50 rfl (by kernel_rfl)
      · exact ⟨by rw [hR], below_setRow HB.out (by omega) _⟩
    · obtain ⟨j, rfl⟩ : ∃ j, i = j + 1 := ⟨i - 1, by omega⟩
      rw [show ((j + 1 : Nat) : Int) - 1 = (j : Int) by omega]
      have HI : Hid (j < 256) := hi
      have i0 : ((0 : Int) ≤ (j : Int)) = True := eq_true (by omega)
      clear hi hpos
      have HMs := Lib.hid (fun u => mont_any z (jm m (A ^ (e / 2 ^ (j + 1)))) (jm m (A ^ (e / 2 ^ (j + 1)))) u (by rw [Hmd.out]; exact Hjl.out _) (Nat.lt_trans (Hjl.out _) Hml.out))
      rw [Hmd.out, mt_jj Hpr.out Hnd.out] at HMs
      have HMs2 := Lib.hid (fun u => mont_any z (jm m (A ^ (e / 2 ^ (j + 1)) * A ^ (e / 2 ^ (j + 1)))) (jm m A) u (by rw [Hmd.out]; exact Hjl.out _) (Nat.lt_trans (Hjl.out _) Hml.out))
      rw [Hmd.out, mt_jj Hpr.out Hnd.out] at HMs2
      have HBt := Lib.hid (pow_bit A e j)
      have HLb := Lib.hid (bit_of e j)
      rw [← Hxj.out] at HMs2
      generalize A ^ (e / 2 ^ (j + 1)) = s at HMs HMs2 HBt HP
      go_upto_region 6 with (fail)
      apply wp_region_lit
      refine Lw.wpList_val rfl (.int .i64 z) wr (by go_simp) ?_
      refine wpList_load_row rfl 50 _ rfl gr (by kernel_rfl) 50 (nmA (lb (jm m s))) (0, 0) _ HP.out.r Try.underlying50 rfl (by kernel_rfl) ?_
      refine wpList_load_row rfl 50 _ rfl gr (by kernel_rfl) 50 (nmA (lb (jm m s))) (0, 0) _ HP.out.r Try.underlying50 rfl (by kernel_rfl) ?_
      simp only [Act.put, List.setIfInBounds_toArray, List.set_cons_zero, List.set_cons_succ]
      refine Lw.wpList_callTo (some 22) rfl rfl 36 _ _ rfl (fun _ _ => by go_simp) #[.int .i64 z, nmV (jm m s), nmV (jm m s)] (by kernel_rfl) ?_
      refine (HMs.out _).mono ?_
      rintro ee u4 ⟨rfl, hb⟩
      refine ⟨_, rfl, ?_⟩
      have HP := Lib.hid (HP.out.on hb)
      clear hb
      refine wpList_store_row rfl 50 _ _ rfl gr (nmA (lb (jm m (s * s)))) (by kernel_rfl) (by kernel_rfl) 50 _ HP.out.r (by kernel_rfl) (by rw [nmA_size, nmA_size]) (nmA_one _) ?_
      have HP := Lib.hid (HP.out.set (jm m (s * s)))
      simp only [Act.put, List.setIfInBounds_toArray, List.set_cons_zero, List.set_cons_succ]
      generalize u4.setRow gr (nmA (lb (jm m (s * s)))) = w5 at HP ⊢
      obtain ⟨q, hq⟩ : ∃ q, j / 32 = q := ⟨_, rfl⟩
      obtain ⟨r, hr⟩ : ∃ r, j % 32 = r := ⟨_, rfl⟩
      have q8 : q < 8 := by have := HI.out; omega
      have q8' : (q : Int) < 8 := by omega
      have t1 : IntKind.i64.wrap ((j : Int) / 32) = (q : Int) := by have := HI.out; rw [IntWalk.i64_in _ (by omega)]; omega
      have xe := HP.out.e.words.at_ q _ q8 rfl
      have l1 := lb_lt e q
      rw [hq, hr] at HLb
      generalize lb e q = L at xe l1 HLb
      generalize e / 2 ^ j % 2 = bt at HLb HBt
      have e0 : (L : Int) / 2 ^ r = ((L / 2 ^ r : Nat) : Int) := by rw [Int.natCast_ediv, Int.natCast_pow]; rfl
      have e1 : bits .and .u32 ((L : Int) / 2 ^ r) 1 = (bt : Int) := by
        have h0 : L / 2 ^ r < 4294967296 := Nat.lt_of_le_of_lt (Nat.div_le_self _ _) l1
        have h1 := u32_and_nat (L / 2 ^ r) 1 h0 (by decide)
        rw [show 1 = 2 ^ 1 - 1 from rfl, Nat.and_two_pow_sub_one_eq_mod] at h1
        rw [e0, show bits .and .u32 ((L / 2 ^ r : Nat) : Int) 1 = ((L / 2 ^ r % 2 ^ 1 : Nat) : Int) from h1, show (2 : Nat) ^ 1 = 2 from rfl, HLb.out]
      clear e0
      by_cases hb1 : bt = 1
      · have hbt := HBt.out
        rw [if_pos hb1] at hbt
        rw [hb1] at e1
        clear hb1 HBt HLb
        go_upto_region 8 with (fail)
        apply wp_region_lit
        refine Lw.wpList_val rfl (.int .i64 z) w5 (by go_simp) ?_
        refine wpList_load_row rfl 50 _ rfl gr (by kernel_rfl) 50 (nmA (lb (jm m (s * s)))) (0, 0) _ HP.out.r Try.underlying50 rfl (by kernel_rfl) ?_
        refine wpList_load_row rfl 50 _ rfl w.heap.size (by kernel_rfl) 50 (nmA (lb x)) (0, 0) _ HP.out.a Try.underlying50 rfl (by kernel_rfl) ?_
        simp only [Act.put, List.setIfInBounds_toArray, List.set_cons_zero, List.set_cons_succ]
        refine Lw.wpList_callTo (some 35) rfl rfl 36 _ _ rfl (fun _ _ => by go_simp) #[.int .i64 z, nmV (jm m (s * s)), nmV x] (by kernel_rfl) ?_
        refine (HMs2.out _).mono ?_
        rintro ee u6 ⟨rfl, hb⟩
        refine ⟨_, rfl, ?_⟩
        have HP := Lib.hid (HP.out.on hb)
        clear hb
        refine wpList_store_row rfl 50 _ _ rfl gr (nmA (lb (jm m (s * s * A)))) (by kernel_rfl) (by kernel_rfl) 50 _ HP.out.r (by kernel_rfl) (by rw [nmA_size, nmA_size]) (nmA_one _) ?_
        have HP := Lib.hid (HP.out.set (jm m (s * s * A)))
        simp only [Act.put, List.setIfInBounds_toArray, List.set_cons_zero, List.set_cons_succ]
        generalize u6.setRow gr (nmA (lb (jm m (s * s * A)))) = w7 at HP ⊢
        go_wp2_with (fail)
        exact ⟨⟨j, Nat.le_of_lt HI.out, rfl, by rw [hbt]; exact HP⟩, by simp [intOf]⟩
      · have hbt := HBt.out
        rw [if_neg hb1, Nat.mul_one] at hbt
        have b0 : ((bt : Int) == 1) = false := by rw [beq_eq_false_iff_ne]; omega
        clear HBt HLb HMs2
        go_wp2_with (fail)
        exact ⟨⟨j, Nat.le_of_lt HI.out, rfl, by rw [hbt]; exact HP⟩, by simp [intOf]⟩
end Go.Proofs.Nu
