/-
  The document's own answer for layer 9: Montgomery's product.
-/
import Derived.Test.YtpniinolkflfjaaJoau
namespace Go.Proofs.Nu
open Go.RowKit
open Go.Proofs.Im (wpList_box_to words_heap words_one run_index_row)
open Go.Proofs.Sha (wordCells wordCells_get wordCells_size rowIs_of wpList_alloc_to wpList_build_to)
open Go.Proofs.Nt
theorem md_256 (z : Int) : ¬ md z ∣ 2 ^ 256 := by
  unfold md
  split
  · decide
  · split <;> decide
set_option maxHeartbeats 8000000 in
set_option maxRecDepth 20000 in
theorem mont_any (z : Int) (x y : Nat) (w : World) (hx : x < md z) (hy : y < B8) :
    Calls Try.prog 36 #[.int .i64 z, nmV x, nmV y] w fun e w' => e = .returned (nmV (mt (md z) x y)) ∧ Below w.heap.size w w' := by
  have hm := md_lt z
  have hk := kz_low z
  have hkl := kz_lt z
  have HMo := Lib.hid (fun u => modulus_any z u)
  have HIn := Lib.hid (fun u => inverse_any z u)
  have HE : Hid (∀ r Q, r < md z → (r * 2 ^ 256 = x * y + md z * Q ∨ r * 2 ^ 256 + md z * Q = x * y) → r = mt (md z) x y) := fun r Q h1 h2 => mt_of (md_prime z) (md_256 z) h1 h2
  generalize mt (md z) x y = R at HE ⊢
  generalize md z = m at hx hm hk HMo HE
  generalize kz z = k at hk hkl HIn
  have HLe := Lib.hid (fun s (hs : s < B8) u => less_any s m u hs hm)
  have HMi := Lib.hid (fun s (hs : s < B8) u => minus_any s m u hs hm)
  have Hxm := Lib.hid hx
  have Hyl := Lib.hid hy
  have Hml := Lib.hid hm
  have Hk := Lib.hid hk
  have Hkl := Lib.hid hkl
  clear hx hy hm hk hkl
  go_enter Try.func36, Try.ntmps36
  go_upto_region 0 with (fail)
  apply wp_region_lit
  refine wpList_box_to rfl 50 _ rfl (nmA (lb x)) (by kernel_rfl) w.heap.size rfl ?_
  refine wpList_box_to rfl 50 _ rfl (nmA (lb y)) (by kernel_rfl) (w.heap.size + 1) (by simp) ?_
  refine wpList_alloc_to rfl 50 rfl (nmA fun _ => 0) (w.heap.size + 2) (by simp) alloc8 ?_
  have HX : Hid (Nm (((w.alloc (.cells (nmA (lb x)) 50)).alloc (.cells (nmA (lb y)) 50)).alloc (.cells (nmA fun _ => 0) 50)) w.heap.size x) := ((Nm.new w x).alloc _).alloc _
  have HY : Hid (Nm (((w.alloc (.cells (nmA (lb x)) 50)).alloc (.cells (nmA (lb y)) 50)).alloc (.cells (nmA fun _ => 0) 50)) (w.heap.size + 1) y) := by
    have h := Nm.new (w.alloc (.cells (nmA (lb x)) 50)) y
    rw [show (w.alloc (.cells (nmA (lb x)) 50)).heap.size = w.heap.size + 1 by simp] at h
    exact h.alloc _
  have HO : Hid (Nm (((w.alloc (.cells (nmA (lb x)) 50)).alloc (.cells (nmA (lb y)) 50)).alloc (.cells (nmA fun _ => 0) 50)) (w.heap.size + 2) 0) := by
    have h := Nm.new0 ((w.alloc (.cells (nmA (lb x)) 50)).alloc (.cells (nmA (lb y)) 50))
    rw [show ((w.alloc (.cells (nmA (lb x)) 50)).alloc (.cells (nmA (lb y)) 50)).heap.size = w.heap.size + 2 by simp] at h
    exact h
  have HB : Hid (Below w.heap.size w (((w.alloc (.cells (nmA (lb x)) 50)).alloc (.cells (nmA (lb y)) 50)).alloc (.cells (nmA fun _ => 0) 50))) := ((((Below.refl _ _).alloc (Nat.le_refl _) _).alloc (by simp) _).alloc (by simp; omega) _)
  generalize ((w.alloc (.cells (nmA (lb x)) 50)).alloc (.cells (nmA (lb y)) 50)).alloc (.cells (nmA fun _ => 0) 50) = w1 at HX HY HO HB ⊢
  go_upto_region 1 with (fail)
  apply wp_region_lit
  refine Lw.wpList_val rfl (.int .i64 z) w1 (by go_simp) ?_
  simp only [Act.put, List.setIfInBounds_toArray, List.set_cons_zero, List.set_cons_succ]
  refine Lw.wpList_callTo (some 21) rfl rfl 22 _ _ rfl (fun _ _ => by go_simp) #[.int .i64 z] (by kernel_rfl) ?_
  refine (HMo.out _).mono ?_
  rintro e u1 ⟨rfl, hb⟩
  refine ⟨_, rfl, ?_⟩
  have HX := Lib.hid (HX.out.on hb)
  have HY := Lib.hid (HY.out.on hb)
  have HO := Lib.hid (HO.out.on hb)
  have HB := Lib.hid (Lw.go_on HB.out hb)
  clear hb
  refine Lw.wpList_val rfl (.int .i64 z) u1 (by go_simp) ?_
  simp only [Act.put, List.setIfInBounds_toArray, List.set_cons_zero, List.set_cons_succ]
  refine Lw.wpList_callTo (some 23) rfl rfl 48 _ _ rfl (fun _ _ => by go_simp) #[.int .i64 z] (by kernel_rfl) ?_
  refine (HIn.out _).mono ?_
  rintro e u2 ⟨rfl, hb⟩
  refine ⟨_, rfl, ?_⟩
  have HX := Lib.hid (HX.out.on hb)
  have HY := Lib.hid (HY.out.on hb)
  have HO := Lib.hid (HO.out.on hb)
  have HB := Lib.hid (Lw.go_on HB.out hb)
  clear hb
  refine wpList_alloc_to rfl 50 rfl (nmA fun _ => 0) u2.heap.size rfl alloc8 ?_
  refine wpList_store_row rfl 50 _ _ rfl u2.heap.size (nmA (lb m)) (by kernel_rfl) (by kernel_rfl) 50 _ (heap_alloc_last _ _) (by kernel_rfl) (by rw [nmA_size, nmA_size]) (nmA_one _) ?_
  rw [World.setRow_alloc_new]
  refine Lw.wpList_val rfl (.int .u64 (k : Nat)) (u2.alloc (.cells (nmA (lb m)) 50)) (by go_simp) ?_
  simp only [Act.put, List.setIfInBounds_toArray, List.set_cons_zero, List.set_cons_succ]
  have HM := Lib.hid (Nm.new u2 m)
  have HG : Hid (w.heap.size + 2 < u2.heap.size) := HO.out.lt
  have HX := Lib.hid (HX.out.alloc (.cells (nmA (lb m)) 50))
  have HY := Lib.hid (HY.out.alloc (.cells (nmA (lb m)) 50))
  have HO := Lib.hid (HO.out.alloc (.cells (nmA (lb m)) 50))
  have HB : Hid (Below w.heap.size w (u2.alloc (.cells (nmA (lb m)) 50))) := HB.out.alloc HB.out.size _
  generalize u2.alloc (.cells (nmA (lb m)) 50) = w2 at HM HX HY HO HB ⊢
  generalize u2.heap.size = gm at HM HG ⊢
  go_upto_region 2 with (fail)
  apply wp_region_lit
  refine wpList_alloc_to rfl 81 rfl zA10 w2.heap.size rfl allocT ?_
  simp only [Act.put, List.setIfInBounds_toArray, List.set_cons_zero, List.set_cons_succ]
  have HG2 : Hid (gm < w2.heap.size) := HM.out.lt
  have HMm : Hid (Mo w (w2.alloc (.cells zA10 81)) x y m gm w2.heap.size (fun _ => 0)) :=
    ⟨(HX.out.alloc _).words, (HY.out.alloc _).words, (HO.out.alloc _).words, (HM.out.alloc _).words, RT.new w2, HB.out.alloc HB.out.size _, HG.out, HG2.out⟩
  clear HX HY HO HM HB HG HG2 HMo HIn
  generalize w2.alloc (.cells zA10 81) = w3 at HMm ⊢
  generalize w2.heap.size = gt at HMm ⊢
  have HR : Hid (Rd x y m 0 (fun _ => 0)) := rd_zero x y m (by have := Hxm.out; omega)
  generalize nmV x = Ax
  generalize nmV y = Ay
  go_wp2_with (fail)
  go_loopw [10] (fun v wx => ∃ (i : Nat) (t : Nat → Nat), Hid (i ≤ 8) ∧ v = .int .i64 i ∧ Hid (Rd x y m i t) ∧ Hid (Mo w wx x y m gm gt t)) (fun v _ => 8 - (intOf v).toNat)
  case atStart => exact ⟨0, fun _ => 0, Nat.zero_le _, rfl, HR, HMm⟩
  case round =>
    clear HR HMm
    obtain ⟨i, t, hi, rfl, HR, HM⟩ := hrel
    by_cases hlt : i < 8
    · have il : ((i : Int) < 8) = True := eq_true (by omega)
      have il' : (i : Int) < 8 := by omega
      have HI := Lib.hid hlt
      clear hlt
      go_wp2_with (fail)
      have HF := Lib.hid (fun j => fc_lt (t := t) (a := lb x) (b := lb y i) HR.out.1 (lb_lt x) (lb_lt y i) j)
      go_loopw [11, 12] (fun c v wx => ∃ j : Nat, Hid (j ≤ 8) ∧ v = .int .i64 j ∧ c = .int .u64 (fc t (lb x) (lb y i) j : Nat) ∧ Hid (Mo w wx x y m gm gt (half (fw t (lb x) (lb y i)) t j))) (fun _ v _ => 8 - (intOf v).toNat)
      case atStart => exact ⟨0, Nat.zero_le _, rfl, rfl, HM.out.congr fun j _ => half_zero _ t j⟩
      case round =>
        clear HM
        obtain ⟨j, hj, rfl, rfl, HM⟩ := hrel
        by_cases hlt : j < 8
        case neg =>
          have jl : ((j : Int) < 8) = False := eq_false (by omega)
          obtain rfl : j = 8 := by have := hj.out; omega
          rw [show ((8 : Nat) : Int) = 8 from rfl]
          clear hlt jl hj
          have x8 := HM.out.tt.at_ 8 (t 8) (by decide) (by unfold half; rw [if_neg (by decide)])
          have x9 := HM.out.tt.at_ 9 (t 9) (by decide) (by unfold half; rw [if_neg (by decide)])
          have f8 := World.rowIs.frozen HM.out.tt 8
          have f9 := World.rowIs.frozen HM.out.tt 9
          have l8 := HR.out.1 8
          have l9 := HF.out 8
          have HU1 : Hid ((t 8 + fc t (lb x) (lb y i) 8) % 4294967296 = r1 8 t (lb x) (lb y i) 8) := rfl
          have HU2 : Hid ((t 8 + fc t (lb x) (lb y i) 8) / 4294967296 = r1 8 t (lb x) (lb y i) 9) := rfl
          generalize fc t (lb x) (lb y i) 8 = c at l9 HU1 HU2 ⊢
          generalize t 8 = t8 at x8 l8 HU1 HU2
          generalize t 9 = t9 at x9
          have m1 := mask32 (t8 + c) (by omega)
          go_upto_region 16 with (fail)
          rw [show (t8 : Int) + (c : Int) = ((t8 + c : Nat) : Int) by omega, m1, show ((t8 + c : Nat) : Int) / 4294967296 = (((t8 + c) / 4294967296 : Nat) : Int) by omega]
          have HM : Hid (Mo w ((wr.setCell ⟨gt, 8, none⟩ (.int .u64 (((t8 + c) % 4294967296 : Nat) : Int))).setCell ⟨gt, 9, none⟩ (.int .u64 (((t8 + c) / 4294967296 : Nat) : Int))) x y m gm gt (r1 8 t (lb x) (lb y i))) :=
            ((HM.out.set 8 ((t8 + c) % 4294967296)).set 9 ((t8 + c) / 4294967296)).congr fun j hj => by
              rw [HU1.out, HU2.out]
              by_cases e9 : j = 9
              · rw [if_pos e9, e9]
              · rw [if_neg e9]
                by_cases e8 : j = 8
                · rw [if_pos e8, e8]
                · rw [if_neg e8]; unfold half r1; rw [if_pos (by omega), if_pos (by omega)]
          clear x8 x9 f8 f9 l8 l9 HU1 HU2 m1
          generalize (wr.setCell ⟨gt, 8, none⟩ (.int .u64 (((t8 + c) % 4294967296 : Nat) : Int))).setCell ⟨gt, 9, none⟩ (.int .u64 (((t8 + c) / 4294967296 : Nat) : Int)) = w5 at HM ⊢
          generalize ((t8 + c : Nat) : Int) = sc
          generalize (((t8 + c) % 4294967296 : Nat) : Int) = sc1
          generalize (((t8 + c) / 4294967296 : Nat) : Int) = sc2
          have HUl : Hid (∀ j, r1 8 t (lb x) (lb y i) j < 4294967296) := fun j => by
            unfold r1
            by_cases h : j < 8
            · rw [if_pos h]; exact Nat.mod_lt _ (by decide)
            · rw [if_neg h]
              by_cases h8 : j = 8
              · rw [if_pos h8]; exact Nat.mod_lt _ (by decide)
              · rw [if_neg h8]
                have h1 := HR.out.1 8
                have h2 := HF.out 8
                have : (t 8 + fc t (lb x) (lb y i) 8) / 4294967296 < 2 := by rw [Nat.div_lt_iff_lt_mul (by decide)]; omega
                omega
          have HNx := Lib.hid (fun q hq => rd_next Hxm.out Hml.out Hk.out HR.out q hq)
          clear HR HF
          generalize r1 8 t (lb x) (lb y i) = u at HM HUl HNx
          have x0 := HM.out.tt.at_ 0 (u 0) (by decide) rfl
          have y0 := HM.out.mm.at_ 0 (lb m 0) (by decide) rfl
          have l0 := HUl.out 0
          have lm0 := lb_lt m 0
          have lk := Hkl.out
          have p1 : u 0 * k ≤ 18446744065119617025 := mul_word l0 lk
          have HNx := Lib.hid (HNx.out _ rfl)
          obtain ⟨q, hq⟩ : ∃ q, u 0 * k % 4294967296 = q := ⟨_, rfl⟩
          rw [hq] at HNx
          have lq : q < 4294967296 := by rw [← hq]; exact Nat.mod_lt _ (by decide)
          have p2 := mul_word lm0 lq
          have HFq := Lib.hid (fun j => fc_lt (t := u) (a := lb m) (b := q) HUl.out (lb_lt m) lq j)
          have HC0 : Hid ((u 0 + lb m 0 * q) / 4294967296 = fc u (lb m) q 1) := rfl
          have o1 : IntKind.u64.wrap ((u 0 : Int) * (k : Int)) = ((u 0 * k : Nat) : Int) := by show _ % 18446744073709551616 = _; rw [← Int.natCast_mul]; omega
          have m2 : bits .and .u64 ((u 0 * k : Nat) : Int) 4294967295 = (q : Int) := by rw [mask32 _ (by omega), hq]
          have o2 : IntKind.u64.wrap ((q : Int) * (lb m 0 : Int)) = ((lb m 0 * q : Nat) : Int) := by show _ % 18446744073709551616 = _; rw [← Int.natCast_mul, Nat.mul_comm]; omega
          generalize lb m 0 * q = mq at o2 p2 HC0
          generalize u 0 * k = uk at o1 m2 p1 hq
          generalize u 0 = u0 at x0 l0 o1 HC0
          generalize lb m 0 = m0 at y0 o2 lm0 p2
          clear hq p1
          go_wp2_with (fail)
          rw [show ((u0 : Int) + (mq : Int)) / 4294967296 = ((fc u (lb m) q 1 : Nat) : Int) by rw [← HC0.out]; omega]
          clear x0 y0 l0 lm0 lk o1 o2 m2 p2 HC0
          generalize ((u0 : Int) + (mq : Int)) = junk1
          go_loopw [11, 16] (fun c v wx => ∃ j : Nat, Hid (1 ≤ j) ∧ Hid (j ≤ 8) ∧ v = .int .i64 j ∧ c = .int .u64 (fc u (lb m) q j : Nat) ∧ Hid (Mo w wx x y m gm gt (sh (fw u (lb m) q) u j))) (fun _ v _ => 8 - (intOf v).toNat)
          case atStart => exact ⟨1, Nat.le_refl _, by show 1 ≤ 8; decide, rfl, rfl, HM.out.congr fun j _ => sh_one _ u j⟩
          case round =>
            clear HM
            obtain ⟨j, hj1, hj, rfl, rfl, HM⟩ := hrel
            by_cases hlt : j < 8
            case neg =>
              have jl : ((j : Int) < 8) = False := eq_false (by omega)
              obtain rfl : j = 8 := by have := hj.out; omega
              rw [show ((8 : Nat) : Int) = 8 from rfl]
              clear hlt jl hj hj1
              have x7 := HM.out.tt.at_ 7 _ (by decide) rfl
              have x8 := HM.out.tt.at_ 8 (u 8) (by decide) (sh_at _ _ _)
              have x9 := HM.out.tt.at_ 9 (u 9) (by decide) (by unfold sh; rw [if_neg (by decide)])
              have f7 := World.rowIs.frozen HM.out.tt 7
              have f8 := World.rowIs.frozen HM.out.tt 8
              have f9 := World.rowIs.frozen HM.out.tt 9
              have l8 := HUl.out 8
              have l9 := HUl.out 9
              have lc := HFq.out 8
              have HU1 : Hid ((u 8 + fc u (lb m) q 8) % 4294967296 = r2 7 u (lb m) q 7) := rfl
              have HU2 : Hid (u 9 + (u 8 + fc u (lb m) q 8) / 4294967296 = r2 7 u (lb m) q 8) := rfl
              generalize fc u (lb m) q 8 = c at lc HU1 HU2 ⊢
              generalize u 8 = t8 at x8 l8 HU1 HU2
              generalize u 9 = t9 at x9 l9 HU2
              generalize sh (fw u (lb m) q) u 8 7 = t7 at x7
              have m1 := mask32 (t8 + c) (by omega)
              go_wp2_with (fail)
              rw [show (t8 : Int) + (c : Int) = ((t8 + c : Nat) : Int) by omega, m1, show (t9 : Int) + ((t8 + c : Nat) : Int) / 4294967296 = ((t9 + (t8 + c) / 4294967296 : Nat) : Int) by omega, show (0 : Int) = ((0 : Nat) : Int) from rfl]
              refine ⟨⟨i + 1, _, HI.out, by go_num, HNx.out, (((HM.out.set 7 ((t8 + c) % 4294967296)).set 8 (t9 + (t8 + c) / 4294967296)).set 9 0).congr fun j hj => ?_⟩, Lw.meas 8 i HI.out⟩
              rw [HU1.out, HU2.out]
              by_cases e9 : j = 9
              · rw [if_pos e9, e9]; rfl
              · rw [if_neg e9]
                by_cases e8 : j = 8
                · rw [if_pos e8, e8]
                · rw [if_neg e8]
                  by_cases e7 : j = 7
                  · rw [if_pos e7, e7]
                  · rw [if_neg e7]; unfold sh r2; rw [if_pos (by omega), if_pos (by omega)]
            have jl : ((j : Int) < 8) = True := eq_true (by omega)
            have jl' : (j : Int) < 8 := by omega
            have jl2 : (j : Int) < 10 := by omega
            obtain ⟨j', hj'⟩ : ∃ j', j - 1 = j' := ⟨_, rfl⟩
            have s1 : IntKind.i64.wrap ((j : Int) - 1) = (j' : Int) := by have := hj1.out; rw [IntWalk.i64_in _ (by omega)]; omega
            have s2 : (j' : Int) < 10 := by omega
            have s3 : j' < 10 := by omega
            have HJ' := Lib.hid hj'
            have HJ := Lib.hid hlt
            have x1 := HM.out.tt.at_ j (u j) (by omega) (sh_at _ _ _)
            have x3 := HM.out.tt.at_ j' _ s3 rfl
            have x2 := HM.out.mm.at_ j (lb m j) hlt rfl
            have l1 := HUl.out j
            have l2 := mul_word (lb_lt m j) lq
            have l3 := HFq.out j
            have HC : Hid ((u j + lb m j * q + fc u (lb m) q j) / 4294967296 = fc u (lb m) q (j + 1)) := rfl
            have HQ : Hid ((u j + lb m j * q + fc u (lb m) q j) % 4294967296 = fw u (lb m) q j) := rfl
            have o1 : IntKind.u64.wrap ((q : Int) * (lb m j : Int)) = ((lb m j * q : Nat) : Int) := by show _ % 18446744073709551616 = _; rw [← Int.natCast_mul, Nat.mul_comm]; omega
            have la := lb_lt m j
            generalize fc u (lb m) q j = c at l3 HC HQ ⊢
            generalize lb m j * q = p at l2 o1 HC HQ
            generalize lb m j = xj at x2 o1 la
            generalize u j = tj at x1 l1 HC HQ
            generalize sh (fw u (lb m) q) u j j' = old at x3
            have m1 := mask32 (tj + p + c) (by omega)
            clear hlt hj'
            go_wp2_with (fail)
            go_quiet (fail)
            have HM := Lib.hid (HM.out.drewN nq)
            have xf := World.rowIs.frozen HM.out.tt j'
            have y1 : (wr.drewN nq).cell? ⟨gt, j', none⟩ = some (.int .u64 (old : Nat)) := x3
            clear x1 x2 x3 o1
            generalize wr.drewN nq = w6 at HM y1 xf ⊢
            go_wp2_with (fail)
            rw [show (tj : Int) + (p : Int) + (c : Int) = ((tj + p + c : Nat) : Int) by omega, m1]
            refine ⟨⟨j + 1, Nat.le_add_left _ _, HJ.out, by go_num, by rw [← HC.out]; rfl, (HM.out.set j' ((tj + p + c) % 4294967296)).congr fun k _ => by rw [HQ.out, ← HJ'.out]; exact sh_next _ _ _ _ hj1.out⟩, Lw.meas 8 j HJ.out⟩
        have jl : ((j : Int) < 8) = True := eq_true (by omega)
        have jl' : (j : Int) < 8 := by omega
        have jl2 : (j : Int) < 10 := by omega
        have HJ := Lib.hid hlt
        have x1 := HM.out.tt.at_ j (t j) (by omega) (half_at _ _ _)
        have x2 := HM.out.a.at_ j (lb x j) hlt rfl
        have x3 := HM.out.b.at_ i (lb y i) HI.out rfl
        have l1 := HR.out.1 j
        have l2 := mul_word (lb_lt x j) (lb_lt y i)
        have l3 := HF.out j
        have HC : Hid ((t j + lb x j * lb y i + fc t (lb x) (lb y i) j) / 4294967296 = fc t (lb x) (lb y i) (j + 1)) := rfl
        have HQ : Hid ((t j + lb x j * lb y i + fc t (lb x) (lb y i) j) % 4294967296 = fw t (lb x) (lb y i) j) := rfl
        have o1 : IntKind.u64.wrap ((lb x j : Int) * (lb y i : Int)) = ((lb x j * lb y i : Nat) : Int) := by show _ % 18446744073709551616 = _; rw [← Int.natCast_mul]; omega
        have la := lb_lt x j
        have lc := lb_lt y i
        generalize fc t (lb x) (lb y i) j = c at l3 HC HQ ⊢
        generalize lb x j * lb y i = p at l2 o1 HC HQ
        generalize lb x j = xj at x2 o1 la
        generalize hyi : lb y i = yi at x3 o1 lc HC HQ HM ⊢
        generalize t j = tj at x1 l1 HC HQ
        have m1 := mask32 (tj + p + c) (by omega)
        clear hlt
        go_wp2_with (fail)
        go_quiet (fail)
        have HM := Lib.hid (HM.out.drewN nq)
        have xf := World.rowIs.frozen HM.out.tt j
        have y1 : (wr.drewN nq).cell? ⟨gt, j, none⟩ = some (.int .u64 (tj : Nat)) := x1
        clear x1 x2 x3 o1
        generalize wr.drewN nq = w4 at HM y1 xf ⊢
        go_wp2_with (fail)
        rw [show (tj : Int) + (p : Int) + (c : Int) = ((tj + p + c : Nat) : Int) by omega, m1]
        refine ⟨⟨j + 1, HJ.out, by go_num, by rw [← HC.out]; rfl, (HM.out.set j ((tj + p + c) % 4294967296)).congr fun j' _ => by rw [HQ.out]; exact half_succ _ _ _ _⟩, Lw.meas 8 j HJ.out⟩
    · have il : ((i : Int) < 8) = False := eq_false (by omega)
      obtain rfl : i = 8 := by have := hi.out; omega
      rw [show ((8 : Nat) : Int) = 8 from rfl]
      clear hlt il hi
      obtain ⟨h1, h2, h3, Q, h4⟩ := HR.out
      have Ht := Lib.hid h1
      have hv9 : nv t 9 = nv t 8 + t 8 * B8 := by rw [b8]; rfl
      have hS := nv_lt8 h1
      rw [nv8 Hyl.out] at h4
      have Hmt : Hid (nmA t = nmA (lb (nv t 8))) := nmA_lb h1
      have HFin : Hid (if 0 < t 8 ∨ ¬ nv t 8 < m then (nv t 8 + B8 - m) % B8 = R else nv t 8 = R) := by
        have hBm := Hml.out
        have hp : (2 : Nat) ^ (32 * 8) = B8 := b8.symm
        have hp2 : (2 : Nat) ^ 256 = B8 := b8.symm
        have hE := HE.out
        rw [hp] at h4
        rw [hp2] at hE
        show if _ then _ else _
        have hB0 : 0 < B8 := by decide
        have h8 : t 8 ≤ 1 := by
          refine Classical.byContradiction fun hc => ?_
          have := Nat.mul_le_mul_right B8 (show 2 ≤ t 8 by omega)
          omega
        have hT : nv t 9 < m ∨ m ≤ nv t 9 := Nat.lt_or_ge _ _
        have low : nv t 9 < m → nv t 9 = R := fun h => hE _ Q h (.inl h4)
        have high : m ≤ nv t 9 → nv t 9 - m = R := fun h => by
          have e5 : (nv t 9 - m) * B8 + m * B8 = x * y + m * Q := by rw [← Nat.add_mul, Nat.sub_add_cancel h]; exact h4
          rcases Nat.lt_or_ge Q B8 with hq | hq
          · refine hE _ (B8 - Q) (by omega) (.inr ?_)
            have e6 : m * B8 = m * (B8 - Q) + m * Q := by rw [← Nat.mul_add, Nat.sub_add_cancel (Nat.le_of_lt hq)]
            omega
          · refine hE _ (Q - B8) (by omega) (.inl ?_)
            have e6 : m * Q = m * (Q - B8) + m * B8 := by rw [← Nat.mul_add, Nat.sub_add_cancel hq]
            omega
        generalize nv t 9 = T at *
        generalize nv t 8 = S at *
        rcases Nat.le_one_iff_eq_zero_or_eq_one.1 h8 with e | e
        · rw [e, Nat.zero_mul, Nat.add_zero] at hv9
          subst hv9
          rw [e]
          by_cases hl : T < m
          · rw [if_neg (by omega)]; exact low hl
          · rw [if_pos (.inr hl), show T + B8 - m = T - m + B8 by omega, Nat.add_mod_right, Nat.mod_eq_of_lt (by omega)]; exact high (by omega)
        · rw [e, Nat.one_mul] at hv9
          rw [if_pos (.inl (by omega)), ← hv9, ]
          have := high (by omega)
          rw [Nat.mod_eq_of_lt (by omega)]
          exact this
      clear HR h1 h2 h3 h4 hv9 HE
      have HSl := Lib.hid hS
      clear hS
      generalize nv t 8 = S at Hmt HFin HSl
      go_upto_region 28 with (fail)
      apply wp_region_lit
      refine wpList_alloc_to rfl 50 rfl (nmA fun _ => 0) wr.heap.size rfl alloc8 ?_
      simp only [Act.put, List.setIfInBounds_toArray, List.set_cons_zero, List.set_cons_succ]
      have HSr := Lib.hid (RN.new wr (fun _ => 0))
      have Hgs : Hid (w.heap.size + 2 < gm ∧ gm < gt ∧ gt < wr.heap.size) := ⟨HM.out.g1, HM.out.g2, World.rowIs.lt HM.out.tt⟩
      have HM := Lib.hid (HM.out.on ((Below.refl _ _).alloc (Nat.le_refl _) (.cells (nmA fun _ => 0) 50)))
      generalize wr.alloc (.cells (nmA fun _ => 0) 50) = w6 at HSr HM ⊢
      generalize wr.heap.size = gs at HSr Hgs ⊢
      go_wp2_with (fail)
      go_loopw [19] (fun v wx => ∃ j : Nat, Hid (j ≤ 8) ∧ v = .int .i64 j ∧ Hid (Mo w wx x y m gm gt t) ∧ Hid (RN wx gs (half t (fun _ => 0) j))) (fun v _ => 8 - (intOf v).toNat)
      case atStart => exact ⟨0, Nat.zero_le _, rfl, HM, HSr.out.congr fun j _ => half_zero t (fun _ => 0) j⟩
      case round =>
        clear HM HSr
        obtain ⟨j, hj, rfl, HM, HSr⟩ := hrel
        by_cases hlt : j < 8
        · have jl : ((j : Int) < 8) = True := eq_true (by omega)
          have jl' : (j : Int) < 8 := by omega
          have jl2 : (j : Int) < 10 := by omega
          have HJ := Lib.hid hlt
          have x1 := HM.out.tt.at_ j (t j) (by omega) rfl
          have y1 := HSr.out.at_ j _ hlt rfl
          have yf := World.rowIs.frozen HSr.out j
          have l1 := Ht.out j
          have HN : Hid (∀ i, (if i = j then t j else half t (fun _ => 0) j i) = half t (fun _ => 0) (j + 1) i) := half_succ t (fun _ => 0) j
          generalize half t (fun _ => 0) j j = old at y1
          generalize t j = tj at x1 l1 HN
          clear hlt
          go_wp2_with (fail)
          exact ⟨⟨j + 1, HJ.out, by go_num, HM.out.far (by have := Hgs.out; omega) _, (HSr.out.set j tj).congr fun i _ => HN.out i⟩, Lw.meas 8 j HJ.out⟩
        · have jl : ((j : Int) < 8) = False := eq_false (by omega)
          obtain rfl : j = 8 := by have := hj.out; omega
          rw [show ((8 : Nat) : Int) = 8 from rfl]
          clear hlt jl hj
          have HS : Hid (Nm wr gs S) := by
            have h := (HSr.out.congr (half_all t (fun _ => 0))).heap
            rw [Hmt.out] at h
            exact h
          have x8 := HM.out.tt.at_ 8 (t 8) (by decide) rfl
          have l8 := Ht.out 8
          have HO := Lib.hid HM.out.r.num
          have HB := Lib.hid HM.out.below
          have HMn := Lib.hid HM.out.mm.num
          clear HSr HM Hmt Ht
          have HM := HMn
          clear HMn
          have hv := HFin.out
          clear HFin
          generalize t 8 = t8 at x8 l8 hv
          generalize hw7 : wr = w7 at HS x8 HO HB HM ⊢
          clear hw7
          by_cases hc : 0 < t8
          · have hR := hv
            rw [if_pos (.inl hc)] at hR
            have g0 : (0 < t8) = True := eq_true hc
            have g1 : ((0 : Int) < (t8 : Int)) = True := eq_true (by omega)
            clear hv hc
            go_upto_region 33 with (fail)
            apply wp_region_lit
            refine Lw.wpList_val rfl (.pointer (some ⟨gt, 8, none⟩)) w7 (by go_simp) ?_
            refine Lw.wpList_val rfl (.int .u64 ((t8 : Nat) : Int)) w7 (by go_simp) ?_
            refine Lw.wpList_val rfl (.bool true) w7 (by go_simp) ?_
            refine Lw.wpList_val rfl (.bool true) w7 (by go_simp) ?_
            simp only [Act.put, List.setIfInBounds_toArray, List.set_cons_zero, List.set_cons_succ]
            refine wpList_off (by rfl) ?_
            refine wpList_off (by rfl) ?_
            refine wpList_off (by rfl) ?_
            refine wpList_off (by rfl) ?_
            simp only [Act.put, List.setIfInBounds_toArray, List.set_cons_zero, List.set_cons_succ]
            refine Lw.wpList_val rfl (.bool true) w7 (by go_simp) ?_
            simp only [Act.put, List.setIfInBounds_toArray, List.set_cons_zero, List.set_cons_succ]
            go_upto_region 34 with (fail)
            apply wp_region_lit
            refine wpList_load_row rfl 50 _ rfl gs (by kernel_rfl) 50 (nmA (lb S)) (0, 0) _ HS.out Try.underlying50 rfl (by kernel_rfl) ?_
            refine wpList_load_row rfl 50 _ rfl gm (by kernel_rfl) 50 (nmA (lb m)) (0, 0) _ HM.out Try.underlying50 rfl (by kernel_rfl) ?_
            simp only [Act.put, List.setIfInBounds_toArray, List.set_cons_zero, List.set_cons_succ]
            refine Lw.wpList_callTo (some 135) rfl rfl 23 _ _ rfl (fun _ _ => by go_simp) #[nmV S, nmV m] (by kernel_rfl) ?_
            refine (HMi.out S HSl.out _).mono ?_
            rintro e u7 ⟨rfl, hb⟩
            refine ⟨_, rfl, ?_⟩
            have HO := Lib.hid (HO.out.on hb)
            have HS := Lib.hid (HS.out.on hb)
            have HB := Lib.hid (Lw.go_on HB.out hb)
            clear hb
            rw [hR]
            refine wpList_store_row rfl 50 _ _ rfl gs (nmA (lb R)) (by kernel_rfl) (by kernel_rfl) 50 _ HS.out (by kernel_rfl) (by rw [nmA_size, nmA_size]) (nmA_one _) ?_
            simp only [Act.put, List.setIfInBounds_toArray, List.set_cons_zero, List.set_cons_succ]
            have HO := Lib.hid (HO.out.ne (show w.heap.size + 2 ≠ gs by have := Hgs.out; omega) (nmA (lb R)))
            have HSn := Lib.hid (HS.out.set R)
            have HB := Lib.hid (below_setRow HB.out (show w.heap.size ≤ gs by have := Hgs.out; omega) (nmA (lb R)))
            clear HS
            have HS := HSn
            clear HSn HM
            generalize u7.setRow gs (nmA (lb R)) = w8 at HO HS HB ⊢
            go_upto_region 35 with (fail)
            apply wp_region_lit
            refine wpList_load_row rfl 50 _ rfl gs (by kernel_rfl) 50 (nmA (lb R)) (0, 0) _ HS.out Try.underlying50 rfl (by kernel_rfl) ?_
            simp only [Act.put, List.setIfInBounds_toArray, List.set_cons_zero, List.set_cons_succ]
            refine wpList_store_row rfl 50 _ _ rfl (w.heap.size + 2) (nmA (lb R)) (by kernel_rfl) (by kernel_rfl) 50 _ HO.out (by kernel_rfl) (by rw [nmA_size, nmA_size]) (nmA_one _) ?_
            simp only [Act.put]
            go_wp2_with (fail)
            refine bodyPost_ret (v := nmV R) ?_ rfl ?_
            · exact results_cell_row (fn := Try.f36) Try.results36 _ _ (w.heap.size + 2) 50 _ (0, 0) _ rfl (HO.out.set R) Try.underlying50 rfl (by kernel_rfl)
            · exact ⟨rfl, below_setRow HB.out (by omega) _⟩
          · have c0 : t8 = 0 := by omega
            subst c0
            go_upto_region 33 with (fail)
            apply wp_region_lit
            refine Lw.wpList_val rfl (.pointer (some ⟨gt, 8, none⟩)) w7 (by go_simp) ?_
            refine Lw.wpList_val rfl (.int .u64 ((0 : Nat) : Int)) w7 (by go_simp) ?_
            refine Lw.wpList_val rfl (.bool false) w7 (by go_simp) ?_
            refine Lw.wpList_val rfl (.bool false) w7 (by go_simp) ?_
            simp only [Act.put, List.setIfInBounds_toArray, List.set_cons_zero, List.set_cons_succ]
            refine wpList_on (by rfl) ?_
            refine wpList_load_row rfl 50 _ rfl gs (by kernel_rfl) 50 (nmA (lb S)) (0, 0) _ HS.out Try.underlying50 rfl (by kernel_rfl) ?_
            simp only [Act.put, List.setIfInBounds_toArray, List.set_cons_zero, List.set_cons_succ]
            refine wpList_on (by rfl) ?_
            refine wpList_load_row rfl 50 _ rfl gm (by kernel_rfl) 50 (nmA (lb m)) (0, 0) _ HM.out Try.underlying50 rfl (by kernel_rfl) ?_
            simp only [Act.put, List.setIfInBounds_toArray, List.set_cons_zero, List.set_cons_succ]
            refine wpList_on (by rfl) ?_
            refine Lw.wpList_callTo (some 130) rfl rfl 21 _ _ rfl (fun _ _ => by go_simp) #[nmV S, nmV m] (by kernel_rfl) ?_
            refine (HLe.out S HSl.out _).mono ?_
            rintro e u4 ⟨rfl, hb⟩
            refine ⟨_, rfl, ?_⟩
            have HO := Lib.hid (HO.out.on hb)
            have HM := Lib.hid (HM.out.on hb)
            have HS := Lib.hid (HS.out.on hb)
            have HB := Lib.hid (Lw.go_on HB.out hb)
            clear hb
            simp only [Act.put, List.setIfInBounds_toArray, List.set_cons_zero, List.set_cons_succ]
            by_cases hl : S < m
            · rw [decide_eq_true hl]
              rw [if_neg (by omega)] at hv
              subst hv
              clear hl hc
              refine wpList_on (by rfl) ?_
              refine Lw.wpList_val rfl (.bool false) u4 (by go_simp) ?_
              simp only [Act.put, List.setIfInBounds_toArray, List.set_cons_zero, List.set_cons_succ]
              refine Lw.wpList_val rfl (.bool false) u4 (by go_simp) ?_
              simp only [Act.put, List.setIfInBounds_toArray, List.set_cons_zero, List.set_cons_succ]
              go_upto_region 35 with (fail)
              apply wp_region_lit
              refine wpList_load_row rfl 50 _ rfl gs (by kernel_rfl) 50 (nmA (lb S)) (0, 0) _ HS.out Try.underlying50 rfl (by kernel_rfl) ?_
              simp only [Act.put, List.setIfInBounds_toArray, List.set_cons_zero, List.set_cons_succ]
              refine wpList_store_row rfl 50 _ _ rfl (w.heap.size + 2) (nmA (lb S)) (by kernel_rfl) (by kernel_rfl) 50 _ HO.out (by kernel_rfl) (by rw [nmA_size, nmA_size]) (nmA_one _) ?_
              simp only [Act.put]
              go_wp2_with (fail)
              refine bodyPost_ret (v := nmV S) ?_ rfl ?_
              · exact results_cell_row (fn := Try.f36) Try.results36 _ _ (w.heap.size + 2) 50 _ (0, 0) _ rfl (HO.out.set S) Try.underlying50 rfl (by kernel_rfl)
              · exact ⟨rfl, below_setRow HB.out (by omega) _⟩
            · rw [decide_eq_false hl]
              have hR := hv
              rw [if_pos (.inr hl)] at hR
              clear hv hl hc
              refine wpList_on (by rfl) ?_
              refine Lw.wpList_val rfl (.bool true) u4 (by go_simp) ?_
              simp only [Act.put, List.setIfInBounds_toArray, List.set_cons_zero, List.set_cons_succ]
              refine Lw.wpList_val rfl (.bool true) u4 (by go_simp) ?_
              simp only [Act.put, List.setIfInBounds_toArray, List.set_cons_zero, List.set_cons_succ]
              go_upto_region 34 with (fail)
              apply wp_region_lit
              refine wpList_load_row rfl 50 _ rfl gs (by kernel_rfl) 50 (nmA (lb S)) (0, 0) _ HS.out Try.underlying50 rfl (by kernel_rfl) ?_
              refine wpList_load_row rfl 50 _ rfl gm (by kernel_rfl) 50 (nmA (lb m)) (0, 0) _ HM.out Try.underlying50 rfl (by kernel_rfl) ?_
              simp only [Act.put, List.setIfInBounds_toArray, List.set_cons_zero, List.set_cons_succ]
              refine Lw.wpList_callTo (some 135) rfl rfl 23 _ _ rfl (fun _ _ => by go_simp) #[nmV S, nmV m] (by kernel_rfl) ?_
              refine (HMi.out S HSl.out _).mono ?_
              rintro e u7 ⟨rfl, hb⟩
              refine ⟨_, rfl, ?_⟩
              have HO := Lib.hid (HO.out.on hb)
              have HS := Lib.hid (HS.out.on hb)
              have HB := Lib.hid (Lw.go_on HB.out hb)
              clear hb
              rw [hR]
              refine wpList_store_row rfl 50 _ _ rfl gs (nmA (lb R)) (by kernel_rfl) (by kernel_rfl) 50 _ HS.out (by kernel_rfl) (by rw [nmA_size, nmA_size]) (nmA_one _) ?_
              simp only [Act.put, List.setIfInBounds_toArray, List.set_cons_zero, List.set_cons_succ]
              have HO := Lib.hid (HO.out.ne (show w.heap.size + 2 ≠ gs by have := Hgs.out; omega) (nmA (lb R)))
              have HSn := Lib.hid (HS.out.set R)
              have HB := Lib.hid (below_setRow HB.out (show w.heap.size ≤ gs by have := Hgs.out; omega) (nmA (lb R)))
              clear HS
              have HS := HSn
              clear HSn HM
              generalize u7.setRow gs (nmA (lb R)) = w8 at HO HS HB ⊢
              go_upto_region 35 with (fail)
              apply wp_region_lit
              refine wpList_load_row rfl 50 _ rfl gs (by kernel_rfl) 50 (nmA (lb R)) (0, 0) _ HS.out Try.underlying50 rfl (by kernel_rfl) ?_
              simp only [Act.put, List.setIfInBounds_toArray, List.set_cons_zero, List.set_cons_succ]
              refine wpList_store_row rfl 50 _ _ rfl (w.heap.size + 2) (nmA (lb R)) (by kernel_rfl) (by kernel_rfl) 50 _ HO.out (by kernel_rfl) (by rw [nmA_size, nmA_size]) (nmA_one _) ?_
              simp only [Act.put]
              go_wp2_with (fail)
              refine bodyPost_ret (v := nmV R) ?_ rfl ?_
              · exact results_cell_row (fn := Try.f36) Try.results36 _ _ (w.heap.size + 2) 50 _ (0, 0) _ rfl (HO.out.set R) Try.underlying50 rfl (by kernel_rfl)
              · exact ⟨rfl, below_setRow HB.out (by omega) _⟩
end Go.Proofs.Nu
