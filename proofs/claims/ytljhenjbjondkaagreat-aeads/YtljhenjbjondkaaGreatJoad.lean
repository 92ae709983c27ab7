/-
  The document's own answer: Poly1305's end.
-/
import Derived.Test.YtljhenjbjondkaaGreatJoac
import Derived.Laws.BytesArg
namespace Go.Proofs.Pol
open Go.RowKit
open Go.Proofs.Aes (byt byt_lt get_byt)
open Go.Proofs.Im (wpList_box_to words_heap words_one run_index_row)
open Go.Proofs.Sha (wordCells wordCells_get wordCells_size rowIs_of wpList_alloc_to)
/-- The limbs, 5 more. -/
def five (d : Nat → Nat) (i : Nat) : Nat := if i = 0 then d 0 + 5 else d i
/-- The least number's limbs. -/
def least (d : Nat → Nat) : Nat → Nat := if 0 < cc (five d) 5 then mid (five d) 5 else d
def endL (h : Nat → Nat) : Nat → Nat := least (carS (carS h))
/-- Bit j of limbs; the first n bits of byte i. -/
def bitL (d : Nat → Nat) (j : Nat) : Nat := d (j / 26) / 2 ^ (j % 26) % 2
def byteL (d : Nat → Nat) (i : Nat) : Nat → Nat
  | 0 => 0
  | k + 1 => byteL d i k + bitL d (8 * i + k) * 2 ^ k
theorem byteL_lt (d : Nat → Nat) (i k : Nat) : byteL d i k < 2 ^ k := by
  induction k with
  | zero => show 0 < 1; decide
  | succ k ih =>
    show byteL d i k + bitL d (8 * i + k) * 2 ^ k < 2 ^ (k + 1)
    have h1 : bitL d (8 * i + k) ≤ 1 := by unfold bitL; omega
    have h2 : bitL d (8 * i + k) * 2 ^ k ≤ 1 * 2 ^ k := Nat.mul_le_mul_right _ h1
    rw [Nat.pow_succ]; omega
/-- What is carried into byte i of the sum; the bytes. -/
def sumL (d : Nat → Nat) (s : ByteArray) : Nat → Nat
  | 0 => 0
  | i + 1 => (sumL d s i + byteL d i 8 + byt s i) / 256
def finB (d : Nat → Nat) (s : ByteArray) (i : Nat) : Nat := (sumL d s i + byteL d i 8 + byt s i) % 256
def finS (d : Nat → Nat) (s : ByteArray) : ByteArray := strOfNums ((List.range 16).map fun i => (finB d s i : Int))
theorem finS_size (d : Nat → Nat) (s : ByteArray) : (finS d s).size = 16 := by simp [finS, strOfNums_size]
theorem sumL_lt (d : Nat → Nat) (s : ByteArray) (i : Nat) : sumL d s i < 3 := by
  induction i with
  | zero => show 0 < 3; decide
  | succ i ih =>
    show (sumL d s i + byteL d i 8 + byt s i) / 256 < 3
    have h1 := byteL_lt d i 8
    have h2 := byt_lt s i
    rw [show (2 : Nat) ^ 8 = 256 from rfl] at h1
    omega
theorem or_bit (b x k : Nat) (hb : b < 2 ^ k) (hx : x ≤ 1) (hk : k < 8) : bits .or .i64 (b : Int) ((x * 2 ^ k : Nat) : Int) = ((b + x * 2 ^ k : Nat) : Int) := by
  have hp : 2 ^ k ≤ 2 ^ 7 := Nat.pow_le_pow_right (by decide) (by omega)
  have hx2 : x * 2 ^ k ≤ 1 * 2 ^ k := Nat.mul_le_mul_right _ hx
  rw [show (2 : Nat) ^ 7 = 128 from rfl] at hp
  have ho : b ||| x * 2 ^ k = b + x * 2 ^ k := by rw [Nat.or_comm, nat_join k (x * 2 ^ k) b (Nat.mul_mod_left _ _) hb, Nat.add_comm]
  show IntKind.i64.wrap ((BitVec.ofInt 64 (b : Int) ||| BitVec.ofInt 64 ((x * 2 ^ k : Nat) : Int)).toNat : Int) = _
  rw [BitVec.toNat_or, ofInt_u64 b (by omega), ofInt_u64 (x * 2 ^ k) (by omega), ho]
  exact IntWalk.i64_in _ (by omega)
theorem and_one (x : Nat) (hx : x < 18446744073709551616) : bits .and .u64 (x : Int) 1 = ((x % 2 : Nat) : Int) := by
  have h := u64_and_nat x 1 hx (by decide)
  rw [show (1 : Nat) = 2 ^ 1 - 1 from rfl, Nat.and_two_pow_sub_one_eq_mod] at h
  exact h
/-- The limbs' two rows. -/
def Mem9 (w u : World) (gg : Nat) (d e : Nat → Nat) : Prop := RQ u w.heap.size d ∧ RQ u gg e ∧ Below w.heap.size w u
theorem Mem9.set {w u : World} {gg : Nat} {d e : Nat → Nat} (h : Mem9 w u gg d e) (hg : w.heap.size < gg) (j v : Nat) : Mem9 w (u.setCell ⟨gg, j, none⟩ (.int .u64 v)) gg d (fun i => if i = j then v else e i) :=
  ⟨h.1.other (Nat.ne_of_lt hg) _, h.2.1.set j v, h.2.2.setCell (Nat.le_of_lt hg) _⟩
theorem Mem9.congr {w u : World} {gg : Nat} {d e f : Nat → Nat} (h : Mem9 w u gg d e) (he : ∀ i, i < 5 → e i = f i) : Mem9 w u gg d f := ⟨h.1, h.2.1.congr he, h.2.2⟩
/-- The bytes so far. -/
def outP (f : Nat → Nat) (n t : Nat) : Nat := if t < n then f t else 0
theorem outP_succ (f : Nat → Nat) (n t : Nat) : (if t = n then f n else outP f n t) = outP f (n + 1) t := by
  unfold outP
  by_cases h : t = n
  · subst h; rw [if_pos rfl, if_pos (Nat.lt_succ_self _)]
  · rw [if_neg h]
    by_cases h2 : t < n
    · rw [if_pos h2, if_pos (by omega)]
    · rw [if_neg h2, if_neg (by omega)]
set_option maxHeartbeats 4000000 in
set_option maxRecDepth 10000 in
theorem finish_any (h : Nat → Nat) (s : ByteArray) (w : World) (hh : ∀ i, h i < 1152921504606846976) (hs : s.size = 16) :
    Calls Tryz.prog 86 #[.agg (lmA h), .string s] w fun e w' => e = .returned (.string (finS (endL h) s)) ∧ Below w.heap.size w w' := by
  have HH := Lib.hid hh
  have HS := Lib.hid hs
  clear hh hs
  go_enter Tryz.func86, Tryz.ntmps86
  generalize hA : lmA h = A
  go_upto_region 0 with (fail)
  apply wp_region_lit
  refine wpList_box_to rfl 83 _ rfl A (by kernel_rfl) w.heap.size rfl ?_
  have HR : Hid (RQ (w.alloc (.cells A 83)) w.heap.size h) := by rw [← hA]; exact RQ.new w h
  have HB : Hid (Below w.heap.size w (w.alloc (.cells A 83))) := (Below.refl _ _).alloc (Nat.le_refl _) _
  generalize w.alloc (.cells A 83) = w1 at HR HB ⊢
  have HN := Lib.hid HR.out.heap
  rw [hA] at HN
  go_upto_region 1 with (fail)
  apply wp_region_lit
  refine wpList_load_row rfl 83 _ rfl w.heap.size (by kernel_rfl) 83 A (0, 0) _ HN.out Tryz.underlying83 rfl (by rw [← hA]; kernel_rfl) ?_
  refine Lw.wpList_callTo (some 15) rfl rfl 106 _ _ rfl (fun _ _ => by go_simp) #[.agg A] (by kernel_rfl) ?_
  have hC1 := carried_any h w1 HH.out
  rw [hA] at hC1
  refine hC1.mono ?_
  clear hC1 HN
  rintro e u1 ⟨rfl, hb1⟩
  refine ⟨_, rfl, ?_⟩
  generalize hA2 : lmA (carS h) = A2
  refine Lw.wpList_callTo (some 16) rfl rfl 106 _ _ rfl (fun _ _ => by go_simp) #[.agg A2] (by kernel_rfl) ?_
  have HL1 : Hid (∀ t, carS h t < 1152921504606846976) := fun t => Nat.lt_trans (carS_lt HH.out t) (by decide)
  have hC2 := carried_any (carS h) u1 HL1.out
  rw [hA2] at hC2
  refine hC2.mono ?_
  clear hC2
  rintro e u2 ⟨rfl, hb2⟩
  refine ⟨_, rfl, ?_⟩
  have HR := Lib.hid ((HR.out.on hb1).on hb2)
  have HB := Lib.hid (Lw.go_on (Lw.go_on HB.out hb1) hb2)
  have HO := Lib.hid HR.out.heap
  clear hb1 hb2
  have HL2 : Hid (∀ t, carS (carS h) t < 171866062848) := carS_lt HL1.out
  have HE : Hid (endL h = least (carS (carS h))) := rfl
  generalize carS (carS h) = d at HL2 HE ⊢
  generalize hA3 : lmA d = A3
  refine wpList_store_row rfl 83 _ _ rfl w.heap.size A3 (by kernel_rfl) (by kernel_rfl) 83 _ HO.out (by rw [← hA3]; kernel_rfl) (by rw [← hA3, lmA_size, lmA_size]) (by rw [← hA3]; exact lmA_one _) ?_
  simp only [Act.put, List.setIfInBounds_toArray, List.set_cons_zero, List.set_cons_succ]
  have HR : Hid (RQ (u2.setRow w.heap.size A3) w.heap.size d) := by rw [← hA3]; exact ⟨_, setRow_heap _ _ _ _ _ _ HO.out, rfl, lmA_get d⟩
  have HB : Hid (Below w.heap.size w (u2.setRow w.heap.size A3)) := below_setRow HB.out (Nat.le_refl _) _
  clear HO HL1
  generalize u2.setRow w.heap.size A3 = w2 at HR HB ⊢
  have HN := Lib.hid HR.out.heap
  rw [hA3] at HN
  go_upto_region 2 with (fail)
  apply wp_region_lit
  refine wpList_load_row rfl 83 _ rfl w.heap.size (by kernel_rfl) 83 A3 (0, 0) _ HN.out Tryz.underlying83 rfl (by rw [← hA3]; kernel_rfl) ?_
  refine wpList_alloc_to rfl 83 rfl (lmA fun _ => 0) w2.heap.size rfl alloc5 ?_
  refine wpList_store_row rfl 83 _ _ rfl w2.heap.size A3 (by kernel_rfl) (by kernel_rfl) 83 _ (heap_alloc_last w2 _) (by rw [← hA3]; kernel_rfl) (by rw [← hA3, lmA_size, lmA_size]) (by rw [← hA3]; exact lmA_one _) ?_
  rw [World.setRow_alloc_new]
  simp only [Act.put, List.setIfInBounds_toArray, List.set_cons_zero, List.set_cons_succ]
  have HM : Hid (Mem9 w (w2.alloc (.cells A3 83)) w2.heap.size d d) := ⟨World.rowIs.alloc HR.out _, by rw [← hA3]; exact RQ.new w2 d, HB.out.alloc HB.out.size _⟩
  have HG : Hid (w.heap.size < w2.heap.size) := World.rowIs.lt HR.out
  clear HN HR HB hA hA2 hA3
  generalize w2.alloc (.cells A3 83) = w3 at HM ⊢
  generalize w2.heap.size = gg at HM HG ⊢
  have x0 := HM.out.2.1.at_ 0 (d 0) (by decide) rfl
  have f0 := World.rowIs.frozen HM.out.2.1 0
  have l0 := HL2.out 0
  have HF0 : Hid (five d 0 = d 0 + 5) := rfl
  go_wp2_with (fail)
  rw [show ((d 0 : Nat) : Int) + 5 = ((d 0 + 5 : Nat) : Int) by omega]
  have HM : Hid (Mem9 w (w3.setCell ⟨gg, 0, none⟩ (.int .u64 ((d 0 + 5 : Nat) : Int))) gg d (mid (five d) 0)) := (HM.out.set HG.out 0 (d 0 + 5)).congr fun i _ => by
    rw [← mid_zero]; unfold five; rfl
  have HFl : Hid (∀ t, five d t < 1152921504606846976) := fun t => by unfold five; have h1 := HL2.out t; have h2 := HL2.out 0; split <;> omega
  clear x0 f0 l0 HF0
  generalize w3.setCell ⟨gg, 0, none⟩ (.int .u64 ((d 0 + 5 : Nat) : Int)) = w4 at HM ⊢
  have HLe : Hid (least d = if 0 < cc (five d) 5 then mid (five d) 5 else d) := rfl
  generalize five d = f at HM HFl HLe
  generalize ((d 0 : Nat) : Int) = dz
  generalize ((d 0 + 5 : Nat) : Int) = dy
  go_loopw [6, 7] (fun c i wx => ∃ j : Nat, Hid (j ≤ 5) ∧ i = .int .i64 j ∧ c = .int .u64 (cc f j : Nat) ∧ Hid (Mem9 w wx gg d (mid f j))) (fun _ i _ => 5 - (intOf i).toNat)
  case atStart => exact ⟨0, Nat.zero_le _, rfl, rfl, HM⟩
  case round =>
    clear HM
    obtain ⟨j, hj, rfl, rfl, HM⟩ := hrel
    by_cases hlt : j < 5
    · have jl : ((j : Int) < 5) = True := eq_true (by omega)
      have jl' : (j : Int) < 5 := by omega
      have xc := HM.out.2.1.at_ j (f j) hlt (mid_at _ _)
      have xf := World.rowIs.frozen HM.out.2.1 j
      have HJ := Lib.hid hlt
      have l1 := HFl.out j
      have l2 := cc_lt HFl.out j
      have HC : Hid ((f j + cc f j) / 67108864 = cc f (j + 1)) := rfl
      have HSu := Lib.hid (mid_succ f j)
      generalize cc f j = c at l2 HC HSu ⊢
      generalize f j = x at xc l1 HC HSu
      have m1 := mask26 (x + c) (by omega)
      clear hlt
      go_wp2_with (fail)
      rw [show ((x : Int) + (c : Int)) = ((x + c : Nat) : Int) by omega, m1]
      refine ⟨⟨j + 1, HJ.out, by go_num, ?_, ?_⟩, Lw.meas 5 j HJ.out⟩
      · rw [← HC.out]; rfl
      · exact ((HM.out.set HG.out j (x + c)).set HG.out j ((x + c) % 67108864)).congr fun i _ => HSu.out i
    · have jl : ((j : Int) < 5) = False := eq_false (by omega)
      obtain rfl : j = 5 := by have := hj.out; omega
      rw [show ((5 : Nat) : Int) = 5 from rfl]
      clear hlt jl hj
      obtain ⟨M, hM, hMc, hmk0⟩ := Lw.zeros 16 (by decide)
      have hmk : ∀ W : World, (Instr.makeSlice 35 (.int .i64 16) (.int .i64 16)).run Tryz.prog W = .ok (.slice (some ⟨W.heap.size, 0, none⟩) 16 16) (W.alloc (.cells M 5)) := hmk0
      have HZ := Lib.hid hM
      have HZc := Lib.hid hMc
      clear hmk0 hM hMc
      by_cases hc : 0 < cc f 5
      · have cl : ((0 : Int) < ((cc f 5 : Nat) : Int)) = True := eq_true (by omega)
        have cl2 : (0 < cc f 5) = True := eq_true hc
        have HLq : Hid (least d = mid f 5) := by have h := HLe.out; rw [if_pos hc] at h; exact h
        have HLb : Hid (∀ t, t < 5 → mid f 5 t < 18446744073709551616) := fun t ht => by unfold mid; rw [if_pos ht]; have := Nat.mod_lt (f t + cc f t) (show 67108864 > 0 by decide); omega
        clear hc HLe
        generalize cc f 5 = c at cl cl2 ⊢
        generalize mid f 5 = X at HM HLq HLb
        have HN := Lib.hid HM.out.2.1.heap
        have HO := Lib.hid HM.out.1.heap
        generalize hA : lmA X = B at HN
        go_upto_region 12 with (fail)
        apply wp_region_lit
        refine wpList_load_row rfl 83 _ rfl gg (by kernel_rfl) 83 B (0, 0) _ HN.out Tryz.underlying83 rfl (by rw [← hA]; kernel_rfl) ?_
        refine wpList_store_row rfl 83 _ _ rfl w.heap.size B (by kernel_rfl) (by kernel_rfl) 83 _ HO.out (by rw [← hA]; kernel_rfl) (by rw [← hA, lmA_size, lmA_size]) (by rw [← hA]; exact lmA_one _) ?_
        simp only [Act.put, List.setIfInBounds_toArray, List.set_cons_zero, List.set_cons_succ]
        have HR : Hid (RQ (wr.setRow w.heap.size B) w.heap.size X) := by rw [← hA]; exact ⟨_, setRow_heap _ _ _ _ _ _ HO.out, rfl, lmA_get X⟩
        have HB : Hid (Below w.heap.size w (wr.setRow w.heap.size B)) := below_setRow HM.out.2.2 (Nat.le_refl _) _
        clear HN HO HM hA
        generalize wr.setRow w.heap.size B = w5 at HR HB ⊢
        go_wp2_with (fail)
        try clear cl cl2
        have HO : Hid (Lw.RowB (w5.alloc (.cells M 5)) w5.heap.size 16 (outP (finB X s) 0)) := (Lw.rowB_new w5 M 16 HZ.out HZc.out).congr fun t _ => by unfold outP; rw [if_neg (by omega)]
        have HGo : Hid (w.heap.size < w5.heap.size) := World.rowIs.lt HR.out
        have HR : Hid (RQ (w5.alloc (.cells M 5)) w.heap.size X) := World.rowIs.alloc HR.out _
        have HB : Hid (Below w.heap.size w (w5.alloc (.cells M 5))) := HB.out.alloc HB.out.size _
        clear hmk HZ HZc
        generalize w5.heap.size = go at HO HGo ⊢
        generalize w5.alloc (.cells M 5) = w6 at HO HR HB ⊢
        go_loopw [9, 10] (fun u v wx => ∃ i : Nat, Hid (i ≤ 16) ∧ v = .int .i64 i ∧ u = .int .i64 (sumL X s i : Nat) ∧ Hid (RQ wx w.heap.size X) ∧ Hid (Lw.RowB wx go 16 (outP (finB X s) i)) ∧ Hid (Below w.heap.size w wx)) (fun _ v _ => 16 - (intOf v).toNat)
        case atStart => exact ⟨0, Nat.zero_le _, rfl, rfl, HR, HO, HB⟩
        case round =>
          clear HR HO HB
          obtain ⟨i, hi, rfl, rfl, HR, HO, HB⟩ := hrel
          by_cases hlt : i < 16
          case neg =>
            have il : ((i : Int) < 16) = False := eq_false (by omega)
            obtain rfl : i = 16 := by have := hi.out; omega
            rw [show ((16 : Nat) : Int) = 16 from rfl]
            clear hlt il hi
            have hcv := (HO.out.congr (Y := finB X s) fun t ht => by unfold outP; rw [if_pos (by omega)]).text 0 16 16 (by decide)
            generalize sumL X s 16 = su
            go_wp2_with (fail)
            go_ret
            refine ⟨?_, HB.out⟩
            rw [HE.out, HLq.out]
            unfold finS Lw.pieceS
            simp only [Nat.zero_add]
            rfl
          have il : ((i : Int) < 16) = True := eq_true (by omega)
          have il' : (i : Int) < 16 := by omega
          have HI := Lib.hid hlt
          clear hlt
          go_wp2_with (fail)
          go_loopw [11, 12] (fun b v wx => ∃ k : Nat, Hid (k ≤ 8) ∧ v = .int .i64 k ∧ b = .int .i64 (byteL X i k : Nat) ∧ Hid (RQ wx w.heap.size X) ∧ Hid (Lw.RowB wx go 16 (outP (finB X s) i)) ∧ Hid (Below w.heap.size w wx)) (fun _ v _ => 8 - (intOf v).toNat)
          case atStart => exact ⟨0, Nat.zero_le _, rfl, rfl, HR, HO, HB⟩
          case round =>
            clear HR HO HB
            obtain ⟨k, hk, rfl, rfl, HR, HO, HB⟩ := hrel
            by_cases hlt : k < 8
            case neg =>
              have kl : ((k : Int) < 8) = False := eq_false (by omega)
              obtain rfl : k = 8 := by have := hk.out; omega
              rw [show ((8 : Nat) : Int) = 8 from rfl]
              clear hlt kl hk
              have i1 : (i : Int) < (s.size : Int) := by have := HS.out; omega
              have v1 : ∀ h : i < s.size, (s[i]'h).toNat = byt s i := fun h => get_byt s _ h
              have l1 := byteL_lt X i 8
              rw [show (2 : Nat) ^ 8 = 256 from rfl] at l1
              have l2 := sumL_lt X s i
              have l3 := byt_lt s i
              have HN1 : Hid ((sumL X s i + byteL X i 8 + byt s i) / 256 = sumL X s (i + 1)) := rfl
              have HN2 : Hid ((sumL X s i + byteL X i 8 + byt s i) % 256 = finB X s i) := rfl
              have xc := World.rowIs.cell HO.out (i := i) HI.out
              have xf := World.rowIs.frozen HO.out i
              have i16 : (i : Int) < 16 := by have := HI.out; omega
              generalize outP (finB X s) i i = old at xc
              generalize byteL X i 8 = p at l1 HN1 HN2 ⊢
              generalize sumL X s i = q at l2 HN1 HN2 ⊢
              generalize byt s i = r at v1 l3 HN1 HN2
              have a1 : bits .and .i64 ((q : Int) + (p : Int) + (r : Int)) 255 = (((q + p + r) % 256 : Nat) : Int) := by
                have h := Lw.and_of ((q : Int) + (p : Int) + (r : Int)) 255 (by decide)
                rw [show ((((q : Int) + (p : Int) + (r : Int)) % 18446744073709551616).toNat) = q + p + r by omega, show (255 : Nat) = 2 ^ 8 - 1 from rfl, Nat.and_two_pow_sub_one_eq_mod] at h
                exact h
              have HV : Hid ((q + p + r) % 256 < 256) := Nat.mod_lt _ (by decide)
              have HD2 : Hid (((q : Int) + (p : Int) + (r : Int)) / 256 = (((q + p + r) / 256 : Nat) : Int)) := by show _ = _; omega
              generalize (q + p + r) % 256 = z at a1 HN2 HV
              have zl : (z : Int) < 256 := by have := HV.out; omega
              go_wp2_with (fail)
              rw [HD2.out, HN1.out]
              refine ⟨⟨i + 1, HI.out, by go_num, rfl, ?_, ?_, ?_⟩, Lw.meas 16 i HI.out⟩
              · exact HR.out.other (Nat.ne_of_lt HGo.out) _
              · exact (HO.out.set i z).congr fun t _ => by have h := outP_succ (finB X s) i t; rw [← HN2.out] at h; exact h
              · exact HB.out.setCell (Nat.le_of_lt HGo.out) _
            have kl : ((k : Int) < 8) = True := eq_true (by omega)
            have kl' : (k : Int) < 8 := by omega
            have HK := Lib.hid hlt
            clear hlt
            have i16 : (i : Int) < 16 := by have := HI.out; omega
            go_upto_region 23 with (fail)
            rw [show 8 * (i : Int) + (k : Int) = ((8 * i + k : Nat) : Int) by omega]
            have HJl : Hid (8 * i + k < 128) := by show 8 * i + k < 128; have := HI.out; have := HK.out; omega
            have HBd : Hid (byteL X i k + bitL X (8 * i + k) * 2 ^ k = byteL X i (k + 1)) := rfl
            have HBl := Lib.hid (byteL_lt X i k)
            have HTd : Hid (bitL X (8 * i + k) = X ((8 * i + k) / 26) / 2 ^ ((8 * i + k) % 26) % 2) := rfl
            generalize 8 * i + k = J at HJl HBd HTd ⊢
            have xc := HR.out.at_ (J / 26) (X (J / 26)) (by have := HJl.out; omega) rfl
            have xl := HLb.out (J / 26) (by have := HJl.out; omega)
            generalize byteL X i k = b at HBd HBl ⊢
            apply wp_region_lit
            refine Lw.wpList_val rfl (.int .i64 (b : Int)) wr (by go_simp) ?_
            refine Lw.wpList_val rfl (.int .i64 (J : Int)) wr (by go_simp) ?_
            refine Lw.wpList_val rfl (.int .i64 ((J / 26 : Nat) : Int)) wr (by
              have e1 : (J : Int).tdiv 26 = ((J / 26 : Nat) : Int) := by rw [Int.tdiv_eq_ediv_of_nonneg (by omega)]; omega
              have e2 : IntKind.i64.wrap ((J / 26 : Nat) : Int) = ((J / 26 : Nat) : Int) := IntWalk.i64_in _ (by have := HJl.out; omega)
              generalize J / 26 = z at e1 e2
              go_simp) ?_
            have q5 : ((J / 26 : Nat) : Int) < 5 := by have := HJl.out; omega
            generalize hq : J / 26 = q at xc xl q5 HTd ⊢
            refine Lw.wpList_val rfl (.pointer (some ⟨w.heap.size, q, none⟩)) wr (by go_simp) ?_
            have HXl := Lib.hid xl
            clear xl
            generalize X q = x at xc HXl HTd
            refine Lw.wpList_val rfl (.int .u64 (x : Int)) wr (by go_simp) ?_
            refine Lw.wpList_val rfl (.int .i64 (J : Int)) wr (by go_simp) ?_
            refine Lw.wpList_val rfl (.int .i64 ((J % 26 : Nat) : Int)) wr (by
              have e1 : (J : Int).tmod 26 = ((J % 26 : Nat) : Int) := by rw [Int.tmod_eq_emod_of_nonneg (by omega)]; omega
              have e2 : IntKind.i64.wrap ((J % 26 : Nat) : Int) = ((J % 26 : Nat) : Int) := IntWalk.i64_in _ (by omega)
              generalize J % 26 = z at e1 e2
              go_simp) ?_
            have r26 : J % 26 < 26 := Nat.mod_lt _ (by decide)
            generalize J % 26 = r at r26 HTd ⊢
            have HR26 := Lib.hid r26
            clear r26
            refine Lw.wpList_val rfl (.int .u64 ((x / 2 ^ r : Nat) : Int)) wr (by go_simp; rw [Nat.min_eq_left (by have := HR26.out; omega)]) ?_
            have HYl : Hid (x / 2 ^ r < 18446744073709551616) := Nat.lt_of_le_of_lt (Nat.div_le_self _ _) HXl.out
            generalize x / 2 ^ r = y at HYl HTd ⊢
            refine Lw.wpList_val rfl (.int .u64 ((y % 2 : Nat) : Int)) wr (by
              have e1 := and_one y HYl.out
              generalize y % 2 = z at e1
              go_simp) ?_
            have HZb : Hid (y % 2 ≤ 1) := by show y % 2 ≤ 1; omega
            rw [HTd.out] at HBd
            generalize y % 2 = z at HZb HBd ⊢
            refine Lw.wpList_val rfl (.int .i64 (z : Int)) wr (by
              have e1 : IntKind.i64.wrap (z : Int) = (z : Int) := IntWalk.i64_in _ (by have := HZb.out; omega)
              go_simp) ?_
            refine Lw.wpList_val rfl (.int .i64 (k : Int)) wr (by go_simp) ?_
            have hp : 2 ^ k ≤ 2 ^ 7 := Nat.pow_le_pow_right (by decide) (by have := HK.out; omega)
            have HPz : Hid (z * 2 ^ k ≤ 128) := by show z * 2 ^ k ≤ 128; have h := Nat.mul_le_mul HZb.out hp; rw [show (1 : Nat) * 2 ^ 7 = 128 from rfl] at h; exact h
            clear hp
            refine Lw.wpList_val rfl (.int .i64 ((z * 2 ^ k : Nat) : Int)) wr (by
              go_simp
              rw [show ((z : Int) * 2 ^ k) = ((z * 2 ^ k : Nat) : Int) by rw [Int.natCast_mul, Int.natCast_pow]; rfl]
              exact IntWalk.i64_in _ (by have := HPz.out; omega)) ?_
            have e1 := or_bit b z k HBl.out HZb.out HK.out
            generalize z * 2 ^ k = t at e1 HBd ⊢
            rw [HBd.out] at e1
            refine Lw.wpList_val rfl (.int .i64 ((byteL X i (k + 1) : Nat) : Int)) wr (by go_simp) ?_
            simp only [Act.put, List.setIfInBounds_toArray, List.set_cons_zero, List.set_cons_succ]
            generalize hnb : byteL X i (k + 1) = nb
            have HNb := Lib.hid hnb
            clear xc e1 hnb
            go_wp2_with (fail)
            exact ⟨⟨k + 1, HK.out, by go_num, by rw [HNb.out], HR, HO, HB⟩, Lw.meas 8 k HK.out⟩
      · have cl : ((0 : Int) < ((cc f 5 : Nat) : Int)) = False := eq_false (by omega)
        have cl2 : (0 < cc f 5) = False := eq_false hc
        have cl3 : cc f 5 = 0 := by omega
        obtain ⟨X, hX⟩ : ∃ X, d = X := ⟨d, rfl⟩
        have HLq : Hid (least d = X) := by have h := HLe.out; rw [if_neg hc] at h; exact h.trans hX
        have HLb : Hid (∀ t, t < 5 → X t < 18446744073709551616) := fun t _ => by rw [← hX]; exact Nat.lt_trans (HL2.out t) (by decide)
        have HR : Hid (RQ wr w.heap.size X) := by rw [← hX]; exact HM.out.1
        have HB := Lib.hid HM.out.2.2
        clear hc HLe HM hX
        rw [cl3]
        clear cl cl2 cl3
        generalize wr = w5 at HR HB ⊢
        go_wp2_with (fail)
        try clear cl cl2
        have HO : Hid (Lw.RowB (w5.alloc (.cells M 5)) w5.heap.size 16 (outP (finB X s) 0)) := (Lw.rowB_new w5 M 16 HZ.out HZc.out).congr fun t _ => by unfold outP; rw [if_neg (by omega)]
        have HGo : Hid (w.heap.size < w5.heap.size) := World.rowIs.lt HR.out
        have HR : Hid (RQ (w5.alloc (.cells M 5)) w.heap.size X) := World.rowIs.alloc HR.out _
        have HB : Hid (Below w.heap.size w (w5.alloc (.cells M 5))) := HB.out.alloc HB.out.size _
        clear hmk HZ HZc
        generalize w5.heap.size = go at HO HGo ⊢
        generalize w5.alloc (.cells M 5) = w6 at HO HR HB ⊢
        go_loopw [9, 10] (fun u v wx => ∃ i : Nat, Hid (i ≤ 16) ∧ v = .int .i64 i ∧ u = .int .i64 (sumL X s i : Nat) ∧ Hid (RQ wx w.heap.size X) ∧ Hid (Lw.RowB wx go 16 (outP (finB X s) i)) ∧ Hid (Below w.heap.size w wx)) (fun _ v _ => 16 - (intOf v).toNat)
        case atStart => exact ⟨0, Nat.zero_le _, rfl, rfl, HR, HO, HB⟩
        case round =>
          clear HR HO HB
          obtain ⟨i, hi, rfl, rfl, HR, HO, HB⟩ := hrel
          by_cases hlt : i < 16
          case neg =>
            have il : ((i : Int) < 16) = False := eq_false (by omega)
            obtain rfl : i = 16 := by have := hi.out; omega
            rw [show ((16 : Nat) : Int) = 16 from rfl]
            clear hlt il hi
            have hcv := (HO.out.congr (Y := finB X s) fun t ht => by unfold outP; rw [if_pos (by omega)]).text 0 16 16 (by decide)
            generalize sumL X s 16 = su
            go_wp2_with (fail)
            go_ret
            refine ⟨?_, HB.out⟩
            rw [HE.out, HLq.out]
            unfold finS Lw.pieceS
            simp only [Nat.zero_add]
            rfl
          have il : ((i : Int) < 16) = True := eq_true (by omega)
          have il' : (i : Int) < 16 := by omega
          have HI := Lib.hid hlt
          clear hlt
          go_wp2_with (fail)
          go_loopw [11, 12] (fun b v wx => ∃ k : Nat, Hid (k ≤ 8) ∧ v = .int .i64 k ∧ b = .int .i64 (byteL X i k : Nat) ∧ Hid (RQ wx w.heap.size X) ∧ Hid (Lw.RowB wx go 16 (outP (finB X s) i)) ∧ Hid (Below w.heap.size w wx)) (fun _ v _ => 8 - (intOf v).toNat)
          case atStart => exact ⟨0, Nat.zero_le _, rfl, rfl, HR, HO, HB⟩
          case round =>
            clear HR HO HB
            obtain ⟨k, hk, rfl, rfl, HR, HO, HB⟩ := hrel
            by_cases hlt : k < 8
            case neg =>
              have kl : ((k : Int) < 8) = False := eq_false (by omega)
              obtain rfl : k = 8 := by have := hk.out; omega
              rw [show ((8 : Nat) : Int) = 8 from rfl]
              clear hlt kl hk
              have i1 : (i : Int) < (s.size : Int) := by have := HS.out; omega
              have v1 : ∀ h : i < s.size, (s[i]'h).toNat = byt s i := fun h => get_byt s _ h
              have l1 := byteL_lt X i 8
              rw [show (2 : Nat) ^ 8 = 256 from rfl] at l1
              have l2 := sumL_lt X s i
              have l3 := byt_lt s i
              have HN1 : Hid ((sumL X s i + byteL X i 8 + byt s i) / 256 = sumL X s (i + 1)) := rfl
              have HN2 : Hid ((sumL X s i + byteL X i 8 + byt s i) % 256 = finB X s i) := rfl
              have xc := World.rowIs.cell HO.out (i := i) HI.out
              have xf := World.rowIs.frozen HO.out i
              have i16 : (i : Int) < 16 := by have := HI.out; omega
              generalize outP (finB X s) i i = old at xc
              generalize byteL X i 8 = p at l1 HN1 HN2 ⊢
              generalize sumL X s i = q at l2 HN1 HN2 ⊢
              generalize byt s i = r at v1 l3 HN1 HN2
              have a1 : bits .and .i64 ((q : Int) + (p : Int) + (r : Int)) 255 = (((q + p + r) % 256 : Nat) : Int) := by
                have h := Lw.and_of ((q : Int) + (p : Int) + (r : Int)) 255 (by decide)
                rw [show ((((q : Int) + (p : Int) + (r : Int)) % 18446744073709551616).toNat) = q + p + r by omega, show (255 : Nat) = 2 ^ 8 - 1 from rfl, Nat.and_two_pow_sub_one_eq_mod] at h
                exact h
              have HV : Hid ((q + p + r) % 256 < 256) := Nat.mod_lt _ (by decide)
              have HD2 : Hid (((q : Int) + (p : Int) + (r : Int)) / 256 = (((q + p + r) / 256 : Nat) : Int)) := by show _ = _; omega
              generalize (q + p + r) % 256 = z at a1 HN2 HV
              have zl : (z : Int) < 256 := by have := HV.out; omega
              go_wp2_with (fail)
              rw [HD2.out, HN1.out]
              refine ⟨⟨i + 1, HI.out, by go_num, rfl, ?_, ?_, ?_⟩, Lw.meas 16 i HI.out⟩
              · exact HR.out.other (Nat.ne_of_lt HGo.out) _
              · exact (HO.out.set i z).congr fun t _ => by have h := outP_succ (finB X s) i t; rw [← HN2.out] at h; exact h
              · exact HB.out.setCell (Nat.le_of_lt HGo.out) _
            have kl : ((k : Int) < 8) = True := eq_true (by omega)
            have kl' : (k : Int) < 8 := by omega
            have HK := Lib.hid hlt
            clear hlt
            have i16 : (i : Int) < 16 := by have := HI.out; omega
            go_upto_region 23 with (fail)
            rw [show 8 * (i : Int) + (k : Int) = ((8 * i + k : Nat) : Int) by omega]
            have HJl : Hid (8 * i + k < 128) := by show 8 * i + k < 128; have := HI.out; have := HK.out; omega
            have HBd : Hid (byteL X i k + bitL X (8 * i + k) * 2 ^ k = byteL X i (k + 1)) := rfl
            have HBl := Lib.hid (byteL_lt X i k)
            have HTd : Hid (bitL X (8 * i + k) = X ((8 * i + k) / 26) / 2 ^ ((8 * i + k) % 26) % 2) := rfl
            generalize 8 * i + k = J at HJl HBd HTd ⊢
            have xc := HR.out.at_ (J / 26) (X (J / 26)) (by have := HJl.out; omega) rfl
            have xl := HLb.out (J / 26) (by have := HJl.out; omega)
            generalize byteL X i k = b at HBd HBl ⊢
            apply wp_region_lit
            refine Lw.wpList_val rfl (.int .i64 (b : Int)) wr (by go_simp) ?_
            refine Lw.wpList_val rfl (.int .i64 (J : Int)) wr (by go_simp) ?_
            refine Lw.wpList_val rfl (.int .i64 ((J / 26 : Nat) : Int)) wr (by
              have e1 : (J : Int).tdiv 26 = ((J / 26 : Nat) : Int) := by rw [Int.tdiv_eq_ediv_of_nonneg (by omega)]; omega
              have e2 : IntKind.i64.wrap ((J / 26 : Nat) : Int) = ((J / 26 : Nat) : Int) := IntWalk.i64_in _ (by have := HJl.out; omega)
              generalize J / 26 = z at e1 e2
              go_simp) ?_
            have q5 : ((J / 26 : Nat) : Int) < 5 := by have := HJl.out; omega
            generalize hq : J / 26 = q at xc xl q5 HTd ⊢
            refine Lw.wpList_val rfl (.pointer (some ⟨w.heap.size, q, none⟩)) wr (by go_simp) ?_
            have HXl := Lib.hid xl
            clear xl
            generalize X q = x at xc HXl HTd
            refine Lw.wpList_val rfl (.int .u64 (x : Int)) wr (by go_simp) ?_
            refine Lw.wpList_val rfl (.int .i64 (J : Int)) wr (by go_simp) ?_
            refine Lw.wpList_val rfl (.int .i64 ((J % 26 : Nat) : Int)) wr (by
              have e1 : (J : Int).tmod 26 = ((J % 26 : Nat) : Int) := by rw [Int.tmod_eq_emod_of_nonneg (by omega)]; omega
              have e2 : IntKind.i64.wrap ((J % 26 : Nat) : Int) = ((J % 26 : Nat) : Int) := IntWalk.i64_in _ (by omega)
              generalize J % 26 = z at e1 e2
              go_simp) ?_
            have r26 : J % 26 < 26 := Nat.mod_lt _ (by decide)
            generalize J % 26 = r at r26 HTd ⊢
            have HR26 := Lib.hid r26
            clear r26
            refine Lw.wpList_val rfl (.int .u64 ((x / 2 ^ r : Nat) : Int)) wr (by go_simp; rw [Nat.min_eq_left (by have := HR26.out; omega)]) ?_
            have HYl : Hid (x / 2 ^ r < 18446744073709551616) := Nat.lt_of_le_of_lt (Nat.div_le_self _ _) HXl.out
            generalize x / 2 ^ r = y at HYl HTd ⊢
            refine Lw.wpList_val rfl (.int .u64 ((y % 2 : Nat) : Int)) wr (by
              have e1 := and_one y HYl.out
              generalize y % 2 = z at e1
              go_simp) ?_
            have HZb : Hid (y % 2 ≤ 1) := by show y % 2 ≤ 1; omega
            rw [HTd.out] at HBd
            generalize y % 2 = z at HZb HBd ⊢
            refine Lw.wpList_val rfl (.int .i64 (z : Int)) wr (by
              have e1 : IntKind.i64.wrap (z : Int) = (z : Int) := IntWalk.i64_in _ (by have := HZb.out; omega)
              go_simp) ?_
            refine Lw.wpList_val rfl (.int .i64 (k : Int)) wr (by go_simp) ?_
            have hp : 2 ^ k ≤ 2 ^ 7 := Nat.pow_le_pow_right (by decide) (by have := HK.out; omega)
            have HPz : Hid (z * 2 ^ k ≤ 128) := by show z * 2 ^ k ≤ 128; have h := Nat.mul_le_mul HZb.out hp; rw [show (1 : Nat) * 2 ^ 7 = 128 from rfl] at h; exact h
            clear hp
            refine Lw.wpList_val rfl (.int .i64 ((z * 2 ^ k : Nat) : Int)) wr (by
              go_simp
              rw [show ((z : Int) * 2 ^ k) = ((z * 2 ^ k : Nat) : Int) by rw [Int.natCast_mul, Int.natCast_pow]; rfl]
              exact IntWalk.i64_in _ (by have := HPz.out; omega)) ?_
            have e1 := or_bit b z k HBl.out HZb.out HK.out
            generalize z * 2 ^ k = t at e1 HBd ⊢
            rw [HBd.out] at e1
            refine Lw.wpList_val rfl (.int .i64 ((byteL X i (k + 1) : Nat) : Int)) wr (by go_simp) ?_
            simp only [Act.put, List.setIfInBounds_toArray, List.set_cons_zero, List.set_cons_succ]
            generalize hnb : byteL X i (k + 1) = nb
            have HNb := Lib.hid hnb
            clear xc e1 hnb
            go_wp2_with (fail)
            exact ⟨⟨k + 1, HK.out, by go_num, by rw [HNb.out], HR, HO, HB⟩, Lw.meas 8 k HK.out⟩
end Go.Proofs.Pol
