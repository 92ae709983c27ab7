/-
  PolyParts: a sealed text of at most 2000 bytes beside an added text of at most 2000 bytes is the text under the stream from block 1 on, and the tag of all lengths under the first half of block 0, at every seed; no condition.
-/
import Derived.Test.YtijpfaknbgbphaaPwX
import Derived.Test.YtijpfaknbgbphaaPolJ
import Derived.Test.YtijpfaknbgbphaaRows
import Derived.WalkKit
import Derived.ProofKit
import Derived.OpenShut
import Derived.ShutString
import Derived.Below
import Derived.ChangeOld
namespace Go.Proofs.Ytijpfaknbgbphaa.polyParts
open Go.ChangeShapes Go.WideShapes Go.ChangeAt Go.RowKit
open Go.ChangeMaps (open_string shut_string)
set_option linter.unusedVariables false

theorem own : ownKnob Try.prog.godebug = none := by kernel_rfl

open Go.Proofs.Im (ready_one2 ready_call2)
set_option maxHeartbeats 8000000 in
set_option maxRecDepth 100000 in
theorem walk (a0 : ByteArray) (a1 : ByteArray) (a2 : ByteArray) (_w0 : a0.size ≤ maxLen) (_w1 : a1.size ≤ maxLen) (_w2 : a2.size ≤ maxLen) (w : World) :
    Calls Try.prog 6 #[.string a0, .string a1, .string a2] w fun e w' => e = .returned (.bool true) ∧ Below w.heap.size w w' := by
  have HB : Hid (Below w.heap.size w w) := Below.refl _ _
  clear _w0 _w1 _w2
  by_cases hs : 2000 < a2.size
  · have e3 : ((2000 : Int) < (a2.size : Int)) = True := eq_true (by omega)
    clear hs
    go_enter Try.func6, Try.ntmps6
    go_wp2_with (first | (go_at_call 14; refine (Lw.num_same _ _).mono ?_; rintro e u ⟨rfl, rfl⟩) | (go_at_call 15; refine (Pw.awake7_any _).mono ?_; rintro e u ⟨rfl, hb⟩; have HB := Lib.hid (Lw.go_on HB.out hb); clear hb))
    go_ret
    exact ⟨rfl, HB.out⟩
  by_cases ha : 2000 < a1.size
  · have e3 : ((2000 : Int) < (a2.size : Int)) = False := eq_false (by omega)
    have e4 : ((2000 : Int) < (a1.size : Int)) = True := eq_true (by omega)
    clear hs ha
    go_enter Try.func6, Try.ntmps6
    go_wp2_with (first | (go_at_call 14; refine (Lw.num_same _ _).mono ?_; rintro e u ⟨rfl, rfl⟩) | (go_at_call 15; refine (Pw.awake7_any _).mono ?_; rintro e u ⟨rfl, hb⟩; have HB := Lib.hid (Lw.go_on HB.out hb); clear hb))
    go_ret
    exact ⟨rfl, HB.out⟩
  have e3 : ((2000 : Int) < (a2.size : Int)) = False := eq_false (by omega)
  have e4 : ((2000 : Int) < (a1.size : Int)) = False := eq_false (by omega)
  have HS : Hid (a2.size ≤ 2000) := by show a2.size ≤ 2000; omega
  have HA : Hid (a1.size ≤ 2000) := by show a1.size ≤ 2000; omega
  clear hs ha
  obtain ⟨M, hM, hMc, hmk0⟩ := Lw.zeros 44 (by decide)
  have hmk : ∀ W : World, (Instr.makeSlice 32 (.int .i64 44) (.int .i64 44)).run Try.prog W = .ok (.slice (some ⟨W.heap.size, 0, none⟩) 44 44) (W.alloc (.cells M 5)) := hmk0
  have HM := Lib.hid hM
  have HMc := Lib.hid hMc
  clear hmk0 hM hMc
  go_enter Try.func6, Try.ntmps6
  go_wp2_with (go_at_call 15; fail)
  refine (Pw.awake7_any _).mono ?_
  rintro e u ⟨rfl, hb⟩
  have HB := Lib.hid (Lw.go_on HB.out hb)
  clear hb
  go_wp2_with (fail)
  have HR : Hid (Lw.RowB (u.alloc (.cells M 5)) u.heap.size 44 (fun _ => 0)) := Lw.rowB_new u M 44 HM.out HMc.out
  have HG : Hid (w.heap.size ≤ u.heap.size) := HB.out.size
  have HB : Hid (Below w.heap.size w (u.alloc (.cells M 5))) := HB.out.alloc HG.out _
  clear hmk HM HMc e3 e4
  generalize u.heap.size = g at HR HG ⊢
  generalize u.alloc (.cells M 5) = w1 at HR HB ⊢
  go_loopw [8] (fun v wx => ∃ (j : Nat) (X : Nat → Nat), Hid (j ≤ 44) ∧ v = .int .i64 j ∧ Hid (Lw.RowB wx g 44 X) ∧ Hid (Below w.heap.size w wx)) (fun v _ => 44 - (intOf v).toNat)
  case atStart => exact ⟨0, fun _ => 0, Nat.zero_le _, rfl, HR, HB⟩
  case round =>
    clear HR HB
    obtain ⟨j, X, hj, rfl, HR, HB⟩ := hrel
    by_cases hlt : j < 44 ∧ j < a0.size
    · have jl : ((j : Int) < 44) = True := eq_true (by omega)
      have jl' : (j : Int) < 44 := by omega
      have js : ((j : Int) < (a0.size : Int)) = True := eq_true (by omega)
      have js' : (j : Int) < (a0.size : Int) := by omega
      have jn : j < a0.size := hlt.2
      have xc := World.rowIs.cell HR.out (i := j) hlt.1
      have xf := World.rowIs.frozen HR.out j
      have v0 : ∀ h : j < a0.size, (a0[j]'h).toNat = Aes.byt a0 j := fun h => Aes.get_byt a0 _ h
      have HJ := Lib.hid hlt.1
      clear hlt
      go_wp2_with (fail)
      exact ⟨⟨j + 1, _, HJ.out, by go_num, HR.out.set j (Aes.byt a0 j), HB.out.setCell HG.out _⟩, Lw.meas 44 j HJ.out⟩
    · have hc1 := Lib.hid fun n => (HR.out.drewN n).text 0 32 44 (by decide)
      have hc2 := Lib.hid fun n => (HR.out.drewN n).text 32 12 12 (by decide)
      have HK : Hid ((Lw.pieceS X 0 32).size = 32) := Lw.pieceS_size _ _ _
      have HN : Hid ((Lw.pieceS X 32 12).size = 12) := Lw.pieceS_size _ _ _
      generalize Lw.pieceS X 0 32 = K at hc1 HK
      generalize Lw.pieceS X 32 12 = N at hc2 HN
      have HSe := Lib.hid (fun u => Pw.seal_fine K N a1 a2 u HK.out HN.out (by have := HA.out; omega) (by have := HS.out; omega))
      have HXo : Hid (∀ u, Calls Try.prog 16 #[.string K, .int .i64 1, .string N, .string a2] u fun e w' => e = .returned (.tuple #[.string (Cha.strS K 1 N a2), .int .i64 0]) ∧ Below u.heap.size u w') := fun u => Cd.xor_fine K 1 N a2 u HK.out HN.out (by decide) (by have := HS.out; omega)
      have HBl : Hid (∀ u, Calls Try.prog 17 #[.string K, .int .i64 0, .string N] u fun e w' => e = .returned (.tuple #[.string (Cha.chaS K 0 N), .int .i64 0]) ∧ Below u.heap.size u w') := fun u => Cd.blk_fine K 0 N u HK.out HN.out (by decide)
      have HE : Hid (Cha.strS K 1 N a2 ++ Pol.pTagS K N a1 (Cha.strS K 1 N a2) = Pol.sealT K N a1 a2) := rfl
      have HTg : Hid (Pol.macS ((Cha.chaS K 0 N).extract 0 32) (Pol.allS a1 (Cha.strS K 1 N a2)) = Pol.pTagS K N a1 (Cha.strS K 1 N a2)) := rfl
      have HZ1 : Hid ((Cha.strS K 1 N a2).size = a2.size) := Cha.strS_size _ _ _ _
      have HZ2 : Hid ((Cha.chaS K 0 N).size = 64) := Cha.chaS_size _ _ _
      have HZ3 : Hid ((Pol.pTagS K N a1 (Cha.strS K 1 N a2)).size = 16) := Pol.pTagS_size _ _ _ _
      generalize Pol.sealT K N a1 a2 = R at HSe HE
      generalize Pol.pTagS K N a1 (Cha.strS K 1 N a2) = TG at HE HTg HZ3
      generalize Cha.strS K 1 N a2 = XX at HXo HE HTg HZ1
      generalize Cha.chaS K 0 N = BB at HBl HTg HZ2
      by_cases hl : j < 44
      · have jl : ((j : Int) < 44) = True := eq_true (by omega)
        have js : ((j : Int) < (a0.size : Int)) = False := eq_false (by omega)
        clear hlt hl
        go_upto_region 10 with (fail)
        clear jl js
        have c1 := hc1.out
        have c2 := hc2.out
        go_quiet (fail)
        have HB := Lib.hid (Lw.below_drewN HB.out nq)
        clear c1 c2 hc1 hc2 HR
        generalize wr.drewN nq = w2 at HB ⊢
        go_wp2_with (go_at_call 10; fail)
        refine (HSe.out _).mono ?_
        rintro e u3 ⟨rfl, hb⟩
        have HB := Lib.hid (Lw.go_on HB.out hb)
        clear hb
        go_wp2_with (go_at_call 16; fail)
        refine (HXo.out _).mono ?_
        rintro e u4 ⟨rfl, hb⟩
        have HB := Lib.hid (Lw.go_on HB.out hb)
        clear hb
        go_wp2_with (go_at_call 17; fail)
        refine (HBl.out _).mono ?_
        rintro e u5 ⟨rfl, hb⟩
        have HB := Lib.hid (Lw.go_on HB.out hb)
        clear hb HSe HXo HBl
        have zb := HZ2.out
        obtain ⟨na, hna⟩ : ∃ n, a1.size = n := ⟨_, rfl⟩
        obtain ⟨ns, hns⟩ : ∃ n, a2.size = n := ⟨_, rfl⟩
        go_upto_region 16 with (go_at_call 14; refine (Lw.num_same _ _).mono ?_; rintro e u5 ⟨rfl, rfl⟩)
        clear zb
        have HNa := Lib.hid hna
        have HNs : Hid (XX.size = ns) := by show XX.size = ns; rw [HZ1.out, hns]
        have HNs2 := Lib.hid hns
        have HLa : Hid (na ≤ 2000) := by show na ≤ 2000; rw [← hna]; exact HA.out
        have HLs : Hid (ns ≤ 2000) := by show ns ≤ 2000; rw [← hns]; exact HS.out
        have HSz : Hid (strOfNums (Pw.szL (na % 256) (na / 256) (ns % 256) (ns / 256)) = Pol.litS na ++ Pol.litS ns) := Pw.sizes_lit na ns (by have := HLa.out; omega) (by have := HLs.out; omega)
        have HCv := Lib.hid (Pw.size_text u5 (na % 256) (na / 256) (ns % 256) (ns / 256))
        rw [HSz.out] at HCv
        have m1 : bits .and .i64 (na : Int) 255 = ((na % 256 : Nat) : Int) := Pw.mask255 na (by have := HLa.out; omega)
        have m2 : bits .and .i64 (ns : Int) 255 = ((ns % 256 : Nat) : Int) := Pw.mask255 ns (by have := HLs.out; omega)
        have d1 : (na : Int) / 256 = ((na / 256 : Nat) : Int) := by omega
        have d2 : (ns : Int) / 256 = ((ns / 256 : Nat) : Int) := by omega
        have l1 : na % 256 < 256 := Nat.mod_lt _ (by decide)
        have l2 : na / 256 < 256 := by have := HLa.out; omega
        have l3 : ns % 256 < 256 := Nat.mod_lt _ (by decide)
        have l4 : ns / 256 < 256 := by have := HLs.out; omega
        generalize na % 256 = b1 at m1 l1 HCv
        generalize na / 256 = b2 at d1 l2 HCv
        generalize ns % 256 = b3 at m2 l3 HCv
        generalize ns / 256 = b4 at d2 l4 HCv
        have w1 : IntKind.u8.wrap (b1 : Int) = (b1 : Int) := by show (b1 : Int) % 256 = _; omega
        have w2 : IntKind.u8.wrap (b2 : Int) = (b2 : Int) := by show (b2 : Int) % 256 = _; omega
        have w3 : IntKind.u8.wrap (b3 : Int) = (b3 : Int) := by show (b3 : Int) % 256 = _; omega
        have w4 : IntKind.u8.wrap (b4 : Int) = (b4 : Int) := by show (b4 : Int) % 256 = _; omega
        generalize hSZ : Pol.litS na ++ Pol.litS ns = SZ at HCv
        have HSZ := Lib.hid hSZ
        have zSZ : SZ.size = 16 := by rw [← hSZ, ByteArray.size_append, Pol.litS_size, Pol.litS_size]
        clear hSZ HSz
        apply wp_region_lit
        refine Lw.wpList_val rfl (.string a1) u5 (by go_simp) ?_
        refine Lw.wpList_val rfl (.int .i64 (na : Int)) u5 (by go_simp) ?_
        refine Lw.wpList_val rfl (.int .i64 (b1 : Int)) u5 (by go_simp) ?_
        refine Lw.wpList_val rfl (.int .u8 (b1 : Int)) u5 (by go_simp) ?_
        refine Lw.wpList_val rfl (.string a1) u5 (by go_simp) ?_
        refine Lw.wpList_val rfl (.int .i64 (na : Int)) u5 (by go_simp) ?_
        refine Lw.wpList_val rfl (.int .i64 (b2 : Int)) u5 (by go_simp) ?_
        refine Lw.wpList_val rfl (.int .u8 (b2 : Int)) u5 (by go_simp) ?_
        refine Lw.wpList_val rfl (.string a2) u5 (by go_simp) ?_
        refine Lw.wpList_val rfl (.int .i64 (ns : Int)) u5 (by go_simp) ?_
        refine Lw.wpList_val rfl (.int .i64 (b3 : Int)) u5 (by go_simp) ?_
        refine Lw.wpList_val rfl (.int .u8 (b3 : Int)) u5 (by go_simp) ?_
        refine Lw.wpList_val rfl (.string a2) u5 (by go_simp) ?_
        refine Lw.wpList_val rfl (.int .i64 (ns : Int)) u5 (by go_simp) ?_
        refine Lw.wpList_val rfl (.int .i64 (b4 : Int)) u5 (by go_simp) ?_
        refine Lw.wpList_val rfl (.int .u8 (b4 : Int)) u5 (by go_simp) ?_
        simp only [Act.put, List.setIfInBounds_toArray, List.set_cons_zero, List.set_cons_succ]
        have HD : Hid (u5.alloc (.cells #[.int .u8 b1, .int .u8 b2, .int .u8 0, .int .u8 0, .int .u8 0, .int .u8 0, .int .u8 0, .int .u8 0, .int .u8 b3, .int .u8 b4, .int .u8 0, .int .u8 0, .int .u8 0, .int .u8 0, .int .u8 0, .int .u8 0] 5) = u5.alloc (.cells (Pw.szA b1 b2 b3 b4) 5)) := rfl
        refine Lw.wpList_val rfl (.slice (some ⟨u5.heap.size, 0, none⟩) 16 16) (u5.alloc (.cells (Pw.szA b1 b2 b3 b4) 5)) (by rw [← HD.out]; go_simp) ?_
        have hcv := HCv.out
        have HB : Hid (Below w.heap.size w (u5.alloc (.cells (Pw.szA b1 b2 b3 b4) 5))) := HB.out.alloc HB.out.size _
        clear HD HCv m1 m2 d1 d2 w1 w2 w3 w4 l1 l2 l3 l4
        generalize u5.alloc (.cells (Pw.szA b1 b2 b3 b4) 5) = w6 at hcv HB ⊢
        refine Lw.wpList_val rfl (.string SZ) w6 (by go_simp) ?_
        simp only [Act.put, List.setIfInBounds_toArray, List.set_cons_zero, List.set_cons_succ]
        clear hcv
        go_upto_region 17 with (fail)
        obtain ⟨ra, hra⟩ : ∃ r, na % 16 = r := ⟨_, rfl⟩
        obtain ⟨rs, hrs⟩ : ∃ r, ns % 16 = r := ⟨_, rfl⟩
        obtain ⟨p, hp⟩ : ∃ r, (16 - ra) % 16 = r := ⟨_, rfl⟩
        obtain ⟨q, hq⟩ : ∃ r, (16 - rs) % 16 = r := ⟨_, rfl⟩
        have HQa : Hid ((na : Int) % 16 = (ra : Int) ∧ (na : Int).tmod 16 = (ra : Int) ∧ IntKind.i64.wrap (16 - (ra : Int)) = 16 - (ra : Int) ∧ (16 - (ra : Int)) % 16 = (p : Int) ∧ (16 - (ra : Int)).tmod 16 = (p : Int)) := ⟨by omega, by rw [Int.tmod_eq_emod_of_nonneg (by omega)]; omega, IntWalk.i64_in _ (by omega), by omega, by rw [Int.tmod_eq_emod_of_nonneg (by omega)]; omega⟩
        have HQs : Hid ((ns : Int) % 16 = (rs : Int) ∧ (ns : Int).tmod 16 = (rs : Int) ∧ IntKind.i64.wrap (16 - (rs : Int)) = 16 - (rs : Int) ∧ (16 - (rs : Int)) % 16 = (q : Int) ∧ (16 - (rs : Int)).tmod 16 = (q : Int)) := ⟨by omega, by rw [Int.tmod_eq_emod_of_nonneg (by omega)]; omega, IntWalk.i64_in _ (by omega), by omega, by rw [Int.tmod_eq_emod_of_nonneg (by omega)]; omega⟩
        have HAll : Hid ((((a1 ++ Pol.zS p) ++ XX) ++ Pol.zS q) ++ SZ = Pol.allS a1 XX) := by
          show _ = _
          rw [← HSZ.out, ← Pw.all_parts a1 XX p q (by rw [hna, hra, hp]) (by rw [HNs.out, hrs, hq]), hna, HNs.out]
        obtain ⟨MP, hMP, hMPc, hmkP⟩ := Lw.zeros p (by omega)
        obtain ⟨MQ, hMQ, hMQc, hmkQ⟩ := Lw.zeros q (by omega)
        have HMP : Hid (MP.size = p ∧ ∀ i, i < p → MP[i]? = some (.int .u8 0)) := ⟨hMP, hMPc⟩
        have HMQ : Hid (MQ.size = q ∧ ∀ i, i < q → MQ[i]? = some (.int .u8 0)) := ⟨hMQ, hMQc⟩
        have HcP := Lib.hid (Pw.nought_any p)
        have HcQ := Lib.hid (Pw.nought_any q)
        have zP := Pol.zS_size p
        have zQ := Pol.zS_size q
        have p16 : p < 16 := by omega
        have q16 : q < 16 := by omega
        generalize Pol.zS p = KP at HcP HAll zP
        generalize Pol.zS q = KQ at HcQ HAll zQ
        obtain ⟨FA, eF⟩ : ∃ F, a1 ++ KP = F := ⟨_, rfl⟩
        obtain ⟨T1, eT1⟩ : ∃ F, FA ++ XX = F := ⟨_, rfl⟩
        obtain ⟨T2, eT2⟩ : ∃ F, T1 ++ KQ = F := ⟨_, rfl⟩
        obtain ⟨T3, eT3⟩ : ∃ F, T2 ++ SZ = F := ⟨_, rfl⟩
        rw [eF, eT1, eT2, eT3] at HAll
        obtain ⟨nF, zF⟩ : ∃ n, FA.size = n := ⟨_, rfl⟩
        obtain ⟨nT1, zT1⟩ : ∃ n, T1.size = n := ⟨_, rfl⟩
        obtain ⟨nT2, zT2⟩ : ∃ n, T2.size = n := ⟨_, rfl⟩
        have yF : nF = na + p := by rw [← zF, ← eF, ByteArray.size_append, hna, zP]
        have yT1 : nT1 = nF + ns := by rw [← zT1, ← eT1, ByteArray.size_append, zF, HNs.out]
        have yT2 : nT2 = nT1 + q := by rw [← zT2, ← eT2, ByteArray.size_append, zT1, zQ]
        have lla := HLa.out
        have lls := HLs.out
        have HF1 : Hid (a1 ++ KP = FA ∧ a1.size = na ∧ KP.size = p ∧ ¬ 9223372036854775807 < na + p) := ⟨eF, hna, zP, by omega⟩
        have HF2 : Hid (FA ++ XX = T1 ∧ FA.size = nF ∧ XX.size = ns ∧ ¬ 9223372036854775807 < nF + ns) := ⟨eT1, zF, HNs.out, by omega⟩
        have HF3 : Hid (T1 ++ KQ = T2 ∧ T1.size = nT1 ∧ KQ.size = q ∧ ¬ 9223372036854775807 < nT1 + q) := ⟨eT2, zT1, zQ, by omega⟩
        have HF4 : Hid (T2 ++ SZ = T3 ∧ T2.size = nT2 ∧ SZ.size = 16 ∧ ¬ 9223372036854775807 < nT2 + 16) := ⟨eT3, zT2, zSZ, by omega⟩
        obtain ⟨BX, eBX⟩ : ∃ B, BB.extract 0 32 = B := ⟨_, rfl⟩
        have HBx := Lib.hid eBX
        have HMc : Hid (∀ u, Calls Try.prog 8 #[.string BX, .string T3] u fun e w' => e = .returned (.tuple #[.string TG, .int .i64 0]) ∧ Below u.heap.size u w') := fun u => by
          have h := Pw.mac_fine BX T3 u (by rw [← eBX, ByteArray.size_extract, HZ2.out]; rfl) (by rw [← eT3, ByteArray.size_append, zT2, zSZ]; omega)
          rw [HAll.out, ← eBX, HTg.out] at h
          rw [← HAll.out, eBX] at h
          exact h
        clear hMP hMPc hMQ hMQc eF eT1 eT2 eT3 zF zT1 zT2 yF yT1 yT2 lla lls zP zQ p16 q16 eBX hra hrs hp hq hna hns zSZ HAll HTg HSZ
        refine wp_region_any (by kernel_rfl) ?_
        change wpAny _ _ _ _ _ _ _ w6.drew
        have HB := Lib.hid HB.out.drew
        generalize w6.drew = w7 at HB ⊢
        refine Lw.take_to (i := 0) (some 111) (.string a1) rfl rfl (by kernel_rfl) (by kernel_rfl) (by kernel_rfl) (fun _ _ _ h => h) (Or.inl ⟨by rfl, fun w => by go_simp⟩) ?_
        simp only [Act.put, List.setIfInBounds_toArray, List.set_cons_zero, List.set_cons_succ]
        refine Lw.take_to (i := 1) (some 112) (.string a1) rfl rfl (by kernel_rfl) (by kernel_rfl) (by kernel_rfl) (fun _ _ _ h => h) (Or.inl ⟨by rfl, fun w => by go_simp⟩) ?_
        simp only [Act.put, List.setIfInBounds_toArray, List.set_cons_zero, List.set_cons_succ]
        refine Lw.take_to (i := 2) (some 113) (.int .i64 (na : Int)) rfl rfl (by kernel_rfl) (by kernel_rfl) (by kernel_rfl) (fun _ _ _ h => h) (Or.inl ⟨by rfl, fun w => by have h := HNa.out; go_simp⟩) ?_
        simp only [Act.put, List.setIfInBounds_toArray, List.set_cons_zero, List.set_cons_succ]
        refine Lw.take_to (i := 3) (some 114) (.int .i64 (ra : Int)) rfl rfl (by kernel_rfl) (by kernel_rfl) (by kernel_rfl) (fun _ _ _ h => h) (Or.inl ⟨by rfl, fun w => by have h := HQa.out.1; have h2 := HQa.out.2.1; go_simp⟩) ?_
        simp only [Act.put, List.setIfInBounds_toArray, List.set_cons_zero, List.set_cons_succ]
        refine Lw.take_to (i := 4) (some 115) (.int .i64 (16 - (ra : Int))) rfl rfl (by kernel_rfl) (by kernel_rfl) (by kernel_rfl) (fun _ _ _ h => h) (Or.inl ⟨by rfl, fun w => by have h := HQa.out.2.2.1; go_simp⟩) ?_
        simp only [Act.put, List.setIfInBounds_toArray, List.set_cons_zero, List.set_cons_succ]
        refine Lw.take_to (i := 5) (some 116) (.int .i64 (p : Int)) rfl rfl (by kernel_rfl) (by kernel_rfl) (by kernel_rfl) (fun _ _ _ h => h) (Or.inl ⟨by rfl, fun w => by have h := HQa.out.2.2.2.1; have h2 := HQa.out.2.2.2.2; go_simp⟩) ?_
        simp only [Act.put, List.setIfInBounds_toArray, List.set_cons_zero, List.set_cons_succ]
        refine Lw.take_to (i := 9) (some 120) (.string XX) rfl rfl (by kernel_rfl) (by kernel_rfl) (by kernel_rfl) (fun _ _ _ h => h) (Or.inl ⟨by rfl, fun w => by go_simp⟩) ?_
        simp only [Act.put, List.setIfInBounds_toArray, List.set_cons_zero, List.set_cons_succ]
        refine Lw.take_to (i := 11) (some 122) (.string XX) rfl rfl (by kernel_rfl) (by kernel_rfl) (by kernel_rfl) (fun _ _ _ h => h) (Or.inl ⟨by rfl, fun w => by go_simp⟩) ?_
        simp only [Act.put, List.setIfInBounds_toArray, List.set_cons_zero, List.set_cons_succ]
        refine Lw.take_to (i := 12) (some 123) (.int .i64 (ns : Int)) rfl rfl (by kernel_rfl) (by kernel_rfl) (by kernel_rfl) (fun _ _ _ h => h) (Or.inl ⟨by rfl, fun w => by have h := HNs.out; go_simp⟩) ?_
        simp only [Act.put, List.setIfInBounds_toArray, List.set_cons_zero, List.set_cons_succ]
        refine Lw.take_to (i := 13) (some 124) (.int .i64 (rs : Int)) rfl rfl (by kernel_rfl) (by kernel_rfl) (by kernel_rfl) (fun _ _ _ h => h) (Or.inl ⟨by rfl, fun w => by have h := HQs.out.1; have h2 := HQs.out.2.1; go_simp⟩) ?_
        simp only [Act.put, List.setIfInBounds_toArray, List.set_cons_zero, List.set_cons_succ]
        refine Lw.take_to (i := 14) (some 125) (.int .i64 (16 - (rs : Int))) rfl rfl (by kernel_rfl) (by kernel_rfl) (by kernel_rfl) (fun _ _ _ h => h) (Or.inl ⟨by rfl, fun w => by have h := HQs.out.2.2.1; go_simp⟩) ?_
        simp only [Act.put, List.setIfInBounds_toArray, List.set_cons_zero, List.set_cons_succ]
        refine Lw.take_to (i := 15) (some 126) (.int .i64 (q : Int)) rfl rfl (by kernel_rfl) (by kernel_rfl) (by kernel_rfl) (fun _ _ _ h => h) (Or.inl ⟨by rfl, fun w => by have h := HQs.out.2.2.2.1; have h2 := HQs.out.2.2.2.2; go_simp⟩) ?_
        simp only [Act.put, List.setIfInBounds_toArray, List.set_cons_zero, List.set_cons_succ]
        refine Lw.take_to (i := 19) (some 130) (.string SZ) rfl rfl (by kernel_rfl) (by kernel_rfl) (by kernel_rfl) (fun _ _ _ h => h) (Or.inl ⟨by rfl, fun w => by go_simp⟩) ?_
        simp only [Act.put, List.setIfInBounds_toArray, List.set_cons_zero, List.set_cons_succ]
        refine Lw.meetA (fun (gs : Nat × Nat) a => ((((((a.put (some 117) (.slice (some ⟨gs.1, 0, none⟩) p p)).put (some 118) (.string KP)).put (some 119) (.string FA)).put (some 121) (.string T1)).put (some 127) (.slice (some ⟨gs.2, 0, none⟩) q q)).put (some 128) (.string KQ))) #[true, true, true, true, true, true, true, true, true, true, true, true, true, true, true, true, true, true, false, true, false, false] 3 (fun (gs : Nat × Nat) W => Below w.heap.size w W) ?_ (fun key220 => ?_)
        · rintro ⟨g0, g1⟩ W hb
          simp only [Act.put, List.setIfInBounds_toArray, List.set_cons_zero, List.set_cons_succ]
          have HB := Lib.hid hb
          clear hb
          refine Lw.take_to (i := 18) (some 129) (.string T2) rfl rfl (by kernel_rfl) (by kernel_rfl) (by kernel_rfl) (fun _ _ _ h => h) (Or.inl ⟨by rfl, fun w => by have h := HF3.out.1; have h2 := HF3.out.2.1; have h3 := HF3.out.2.2.1; have h4 := HF3.out.2.2.2; go_simp⟩) ?_
          simp only [Act.put, List.setIfInBounds_toArray, List.set_cons_zero, List.set_cons_succ]
          refine Lw.take_to (i := 20) (some 131) (.string T3) rfl rfl (by kernel_rfl) (by kernel_rfl) (by kernel_rfl) (fun _ _ _ h => h) (Or.inl ⟨by rfl, fun w => by have h := HF4.out.1; have h2 := HF4.out.2.1; have h3 := HF4.out.2.2.1; have h4 := HF4.out.2.2.2; go_simp⟩) ?_
          simp only [Act.put, List.setIfInBounds_toArray, List.set_cons_zero, List.set_cons_succ]
          refine Lw.take_to (i := 21) (some 18) (.string T3) rfl rfl (by kernel_rfl) (by kernel_rfl) (by kernel_rfl) (fun _ _ _ h => h) (Or.inl ⟨by rfl, fun w => by go_simp⟩) ?_
          simp only [Act.put, List.setIfInBounds_toArray, List.set_cons_zero, List.set_cons_succ]
          refine wpAny_done (by kernel_rfl) ?_ _
          have zb := HZ2.out
          have eb := HBx.out
          go_wp2_with (go_at_call 8; fail)
          refine (HMc.out _).mono ?_
          rintro e u9 ⟨rfl, hb⟩
          have HB := Lib.hid (Lw.go_on HB.out hb)
          clear hb zb eb
          have z1 := HZ1.out
          have z3 := HZ3.out
          have ns2 : (ns : Int) ≤ 2000 := by have := HLs.out; omega
          have q16 : ¬ 9223372036854775807 < ns + 16 := by have := HLs.out; omega
          have ee := HE.out
          have hns := HNs.out
          go_wp2_with (go_at_call 14; refine (Lw.num_same _ _).mono ?_; rintro e u ⟨rfl, rfl⟩)
          go_ret
          exact ⟨rfl, HB.out⟩
        simp only [Act.put, List.setIfInBounds_toArray, List.set_cons_zero, List.set_cons_succ] at key220
        have key22 := Lib.hid key220
        clear key220
        refine Lw.meetA (fun (gs : Nat × Nat) a => (((a.put (some 117) (.slice (some ⟨gs.1, 0, none⟩) p p)).put (some 127) (.slice (some ⟨gs.2, 0, none⟩) q q)).put (some 128) (.string KQ))) #[true, true, true, true, true, true, true, false, false, true, false, true, true, true, true, true, true, true, false, true, false, false] 6 (fun (gs : Nat × Nat) W => Below w.heap.size w W ∧ Lw.RowB W gs.1 p (fun _ => 0)) ?_ (fun key120 => ?_)
        · rintro ⟨g0, g1⟩ W ⟨hb, r0⟩
          simp only [Act.put, List.setIfInBounds_toArray, List.set_cons_zero, List.set_cons_succ]
          have cv0 := HcP.out W g0 r0
          refine wpAny_ready (rs := [7]) (by kernel_rfl) (by simp) ?_
          refine ready_one2 (some 118) rfl rfl rfl (.string KP) W (by go_simp) ?_ AllReady.nil
          · simp only [Act.put, List.setIfInBounds_toArray, List.set_cons_zero, List.set_cons_succ]
            refine Lw.take_to (i := 8) (some 119) (.string FA) rfl rfl (by kernel_rfl) (by kernel_rfl) (by kernel_rfl) (fun _ _ _ h => h) (Or.inl ⟨by rfl, fun w => by have h := HF1.out.1; have h2 := HF1.out.2.1; have h3 := HF1.out.2.2.1; have h4 := HF1.out.2.2.2; go_simp⟩) ?_
            simp only [Act.put, List.setIfInBounds_toArray, List.set_cons_zero, List.set_cons_succ]
            refine Lw.take_to (i := 10) (some 121) (.string T1) rfl rfl (by kernel_rfl) (by kernel_rfl) (by kernel_rfl) (fun _ _ _ h => h) (Or.inl ⟨by rfl, fun w => by have h := HF2.out.1; have h2 := HF2.out.2.1; have h3 := HF2.out.2.2.1; have h4 := HF2.out.2.2.2; go_simp⟩) ?_
            simp only [Act.put, List.setIfInBounds_toArray, List.set_cons_zero, List.set_cons_succ]
            exact key22.out (g0, g1) _ (hb)
        simp only [Act.put, List.setIfInBounds_toArray, List.set_cons_zero, List.set_cons_succ] at key120
        have key12 := Lib.hid key120
        clear key120
        refine Lw.meetA (fun (gs : Nat × Nat) a => (((((a.put (some 117) (.slice (some ⟨gs.1, 0, none⟩) p p)).put (some 118) (.string KP)).put (some 119) (.string FA)).put (some 121) (.string T1)).put (some 127) (.slice (some ⟨gs.2, 0, none⟩) q q))) #[true, true, true, true, true, true, true, true, true, true, true, true, true, true, true, true, true, false, false, true, false, false] 4 (fun (gs : Nat × Nat) W => Below w.heap.size w W ∧ Lw.RowB W gs.2 q (fun _ => 0)) ?_ (fun key210 => ?_)
        · rintro ⟨g0, g1⟩ W ⟨hb, r1⟩
          simp only [Act.put, List.setIfInBounds_toArray, List.set_cons_zero, List.set_cons_succ]
          have cv1 := HcQ.out W g1 r1
          refine wpAny_ready (rs := [17]) (by kernel_rfl) (by simp) ?_
          refine ready_one2 (some 128) rfl rfl rfl (.string KQ) W (by go_simp) ?_ AllReady.nil
          · simp only [Act.put, List.setIfInBounds_toArray, List.set_cons_zero, List.set_cons_succ]

            exact key22.out (g0, g1) _ (hb)
        simp only [Act.put, List.setIfInBounds_toArray, List.set_cons_zero, List.set_cons_succ] at key210
        have key21 := Lib.hid key210
        clear key210
        refine Lw.meetA (fun (gs : Nat × Nat) a => ((a.put (some 127) (.slice (some ⟨gs.2, 0, none⟩) q q)).put (some 128) (.string KQ))) #[true, true, true, true, true, true, false, false, false, true, false, true, true, true, true, true, true, true, false, true, false, false] 7 (fun (gs : Nat × Nat) W => Below w.heap.size w W) ?_ (fun key020 => ?_)
        · rintro ⟨g0, g1⟩ W hb
          simp only [Act.put, List.setIfInBounds_toArray, List.set_cons_zero, List.set_cons_succ]
          refine wpAny_ready (rs := [6]) (by kernel_rfl) (by simp) ?_
          refine ready_one2 (some 117) rfl rfl rfl (.slice (some ⟨W.heap.size, 0, none⟩) p p) (W.alloc (.cells MP 5)) (by go_simp) ?_ AllReady.nil
          · simp only [Act.put, List.setIfInBounds_toArray, List.set_cons_zero, List.set_cons_succ]
            exact key12.out (W.heap.size, g1) _ (⟨hb.alloc hb.size _, Lw.rowB_new W MP p HMP.out.1 HMP.out.2⟩)
        simp only [Act.put, List.setIfInBounds_toArray, List.set_cons_zero, List.set_cons_succ] at key020
        have key02 := Lib.hid key020
        clear key020
        refine Lw.meetA (fun (gs : Nat × Nat) a => ((a.put (some 117) (.slice (some ⟨gs.1, 0, none⟩) p p)).put (some 127) (.slice (some ⟨gs.2, 0, none⟩) q q))) #[true, true, true, true, true, true, true, false, false, true, false, true, true, true, true, true, true, false, false, true, false, false] 7 (fun (gs : Nat × Nat) W => Below w.heap.size w W ∧ Lw.RowB W gs.1 p (fun _ => 0) ∧ Lw.RowB W gs.2 q (fun _ => 0)) ?_ (fun key110 => ?_)
        · rintro ⟨g0, g1⟩ W ⟨hb, r0, r1⟩
          simp only [Act.put, List.setIfInBounds_toArray, List.set_cons_zero, List.set_cons_succ]
          have cv0 := HcP.out W g0 r0
          have cv1 := HcQ.out W g1 r1
          refine wpAny_ready (rs := [7, 17]) (by kernel_rfl) (by simp) ?_
          refine ready_one2 (some 118) rfl rfl rfl (.string KP) W (by go_simp) ?_ (ready_one2 (some 128) rfl rfl rfl (.string KQ) W (by go_simp) ?_ AllReady.nil)
          · simp only [Act.put, List.setIfInBounds_toArray, List.set_cons_zero, List.set_cons_succ]
            refine Lw.take_to (i := 8) (some 119) (.string FA) rfl rfl (by kernel_rfl) (by kernel_rfl) (by kernel_rfl) (fun _ _ _ h => h) (Or.inl ⟨by rfl, fun w => by have h := HF1.out.1; have h2 := HF1.out.2.1; have h3 := HF1.out.2.2.1; have h4 := HF1.out.2.2.2; go_simp⟩) ?_
            simp only [Act.put, List.setIfInBounds_toArray, List.set_cons_zero, List.set_cons_succ]
            refine Lw.take_to (i := 10) (some 121) (.string T1) rfl rfl (by kernel_rfl) (by kernel_rfl) (by kernel_rfl) (fun _ _ _ h => h) (Or.inl ⟨by rfl, fun w => by have h := HF2.out.1; have h2 := HF2.out.2.1; have h3 := HF2.out.2.2.1; have h4 := HF2.out.2.2.2; go_simp⟩) ?_
            simp only [Act.put, List.setIfInBounds_toArray, List.set_cons_zero, List.set_cons_succ]
            exact key21.out (g0, g1) _ (⟨hb, r1⟩)
          · simp only [Act.put, List.setIfInBounds_toArray, List.set_cons_zero, List.set_cons_succ]

            exact key12.out (g0, g1) _ (⟨hb, r0⟩)
        simp only [Act.put, List.setIfInBounds_toArray, List.set_cons_zero, List.set_cons_succ] at key110
        have key11 := Lib.hid key110
        clear key110
        refine Lw.meetA (fun (gs : Nat × Nat) a => ((((a.put (some 117) (.slice (some ⟨gs.1, 0, none⟩) p p)).put (some 118) (.string KP)).put (some 119) (.string FA)).put (some 121) (.string T1))) #[true, true, true, true, true, true, true, true, true, true, true, true, true, true, true, true, false, false, false, true, false, false] 5 (fun (gs : Nat × Nat) W => Below w.heap.size w W) ?_ (fun key200 => ?_)
        · rintro ⟨g0, g1⟩ W hb
          simp only [Act.put, List.setIfInBounds_toArray, List.set_cons_zero, List.set_cons_succ]
          refine wpAny_ready (rs := [16]) (by kernel_rfl) (by simp) ?_
          refine ready_one2 (some 127) rfl rfl rfl (.slice (some ⟨W.heap.size, 0, none⟩) q q) (W.alloc (.cells MQ 5)) (by go_simp) ?_ AllReady.nil
          · simp only [Act.put, List.setIfInBounds_toArray, List.set_cons_zero, List.set_cons_succ]
            exact key21.out (g0, W.heap.size) _ (⟨hb.alloc hb.size _, Lw.rowB_new W MQ q HMQ.out.1 HMQ.out.2⟩)
        simp only [Act.put, List.setIfInBounds_toArray, List.set_cons_zero, List.set_cons_succ] at key200
        have key20 := Lib.hid key200
        clear key200
        refine Lw.meetA (fun (gs : Nat × Nat) a => (a.put (some 127) (.slice (some ⟨gs.2, 0, none⟩) q q))) #[true, true, true, true, true, true, false, false, false, true, false, true, true, true, true, true, true, false, false, true, false, false] 8 (fun (gs : Nat × Nat) W => Below w.heap.size w W ∧ Lw.RowB W gs.2 q (fun _ => 0)) ?_ (fun key010 => ?_)
        · rintro ⟨g0, g1⟩ W ⟨hb, r1⟩
          simp only [Act.put, List.setIfInBounds_toArray, List.set_cons_zero, List.set_cons_succ]
          have cv1 := HcQ.out W g1 r1
          refine wpAny_ready (rs := [6, 17]) (by kernel_rfl) (by simp) ?_
          refine ready_one2 (some 117) rfl rfl rfl (.slice (some ⟨W.heap.size, 0, none⟩) p p) (W.alloc (.cells MP 5)) (by go_simp) ?_ (ready_one2 (some 128) rfl rfl rfl (.string KQ) W (by go_simp) ?_ AllReady.nil)
          · simp only [Act.put, List.setIfInBounds_toArray, List.set_cons_zero, List.set_cons_succ]
            exact key11.out (W.heap.size, g1) _ (⟨hb.alloc hb.size _, Lw.rowB_new W MP p HMP.out.1 HMP.out.2, World.rowIs.alloc r1 _⟩)
          · simp only [Act.put, List.setIfInBounds_toArray, List.set_cons_zero, List.set_cons_succ]

            exact key02.out (0, g1) _ (hb)
        simp only [Act.put, List.setIfInBounds_toArray, List.set_cons_zero, List.set_cons_succ] at key010
        have key01 := Lib.hid key010
        clear key010
        refine Lw.meetA (fun (gs : Nat × Nat) a => (a.put (some 117) (.slice (some ⟨gs.1, 0, none⟩) p p))) #[true, true, true, true, true, true, true, false, false, true, false, true, true, true, true, true, false, false, false, true, false, false] 8 (fun (gs : Nat × Nat) W => Below w.heap.size w W ∧ Lw.RowB W gs.1 p (fun _ => 0)) ?_ (fun key100 => ?_)
        · rintro ⟨g0, g1⟩ W ⟨hb, r0⟩
          simp only [Act.put, List.setIfInBounds_toArray, List.set_cons_zero, List.set_cons_succ]
          have cv0 := HcP.out W g0 r0
          refine wpAny_ready (rs := [7, 16]) (by kernel_rfl) (by simp) ?_
          refine ready_one2 (some 118) rfl rfl rfl (.string KP) W (by go_simp) ?_ (ready_one2 (some 127) rfl rfl rfl (.slice (some ⟨W.heap.size, 0, none⟩) q q) (W.alloc (.cells MQ 5)) (by go_simp) ?_ AllReady.nil)
          · simp only [Act.put, List.setIfInBounds_toArray, List.set_cons_zero, List.set_cons_succ]
            refine Lw.take_to (i := 8) (some 119) (.string FA) rfl rfl (by kernel_rfl) (by kernel_rfl) (by kernel_rfl) (fun _ _ _ h => h) (Or.inl ⟨by rfl, fun w => by have h := HF1.out.1; have h2 := HF1.out.2.1; have h3 := HF1.out.2.2.1; have h4 := HF1.out.2.2.2; go_simp⟩) ?_
            simp only [Act.put, List.setIfInBounds_toArray, List.set_cons_zero, List.set_cons_succ]
            refine Lw.take_to (i := 10) (some 121) (.string T1) rfl rfl (by kernel_rfl) (by kernel_rfl) (by kernel_rfl) (fun _ _ _ h => h) (Or.inl ⟨by rfl, fun w => by have h := HF2.out.1; have h2 := HF2.out.2.1; have h3 := HF2.out.2.2.1; have h4 := HF2.out.2.2.2; go_simp⟩) ?_
            simp only [Act.put, List.setIfInBounds_toArray, List.set_cons_zero, List.set_cons_succ]
            exact key20.out (g0, 0) _ (hb)
          · simp only [Act.put, List.setIfInBounds_toArray, List.set_cons_zero, List.set_cons_succ]
            exact key11.out (g0, W.heap.size) _ (⟨hb.alloc hb.size _, World.rowIs.alloc r0 _, Lw.rowB_new W MQ q HMQ.out.1 HMQ.out.2⟩)
        simp only [Act.put, List.setIfInBounds_toArray, List.set_cons_zero, List.set_cons_succ] at key100
        have key10 := Lib.hid key100
        clear key100
        refine wpAny_ready (rs := [6, 16]) (by kernel_rfl) (by simp) ?_
        refine ready_one2 (some 117) rfl rfl rfl (.slice (some ⟨w7.heap.size, 0, none⟩) p p) (w7.alloc (.cells MP 5)) (by go_simp) ?_ (ready_one2 (some 127) rfl rfl rfl (.slice (some ⟨w7.heap.size, 0, none⟩) q q) (w7.alloc (.cells MQ 5)) (by go_simp) ?_ AllReady.nil)
        · simp only [Act.put, List.setIfInBounds_toArray, List.set_cons_zero, List.set_cons_succ]
          exact key10.out (w7.heap.size, 0) _ (⟨HB.out.alloc HB.out.size _, Lw.rowB_new w7 MP p HMP.out.1 HMP.out.2⟩)
        · simp only [Act.put, List.setIfInBounds_toArray, List.set_cons_zero, List.set_cons_succ]
          exact key01.out (0, w7.heap.size) _ (⟨HB.out.alloc HB.out.size _, Lw.rowB_new w7 MQ q HMQ.out.1 HMQ.out.2⟩)
      · have jl : ((j : Int) < 44) = False := eq_false (by omega)
        clear hlt hl
        go_upto_region 10 with (fail)
        clear jl
        have c1 := hc1.out
        have c2 := hc2.out
        go_quiet (fail)
        have HB := Lib.hid (Lw.below_drewN HB.out nq)
        clear c1 c2 hc1 hc2 HR
        generalize wr.drewN nq = w2 at HB ⊢
        go_wp2_with (go_at_call 10; fail)
        refine (HSe.out _).mono ?_
        rintro e u3 ⟨rfl, hb⟩
        have HB := Lib.hid (Lw.go_on HB.out hb)
        clear hb
        go_wp2_with (go_at_call 16; fail)
        refine (HXo.out _).mono ?_
        rintro e u4 ⟨rfl, hb⟩
        have HB := Lib.hid (Lw.go_on HB.out hb)
        clear hb
        go_wp2_with (go_at_call 17; fail)
        refine (HBl.out _).mono ?_
        rintro e u5 ⟨rfl, hb⟩
        have HB := Lib.hid (Lw.go_on HB.out hb)
        clear hb HSe HXo HBl
        have zb := HZ2.out
        obtain ⟨na, hna⟩ : ∃ n, a1.size = n := ⟨_, rfl⟩
        obtain ⟨ns, hns⟩ : ∃ n, a2.size = n := ⟨_, rfl⟩
        go_upto_region 16 with (go_at_call 14; refine (Lw.num_same _ _).mono ?_; rintro e u5 ⟨rfl, rfl⟩)
        clear zb
        have HNa := Lib.hid hna
        have HNs : Hid (XX.size = ns) := by show XX.size = ns; rw [HZ1.out, hns]
        have HNs2 := Lib.hid hns
        have HLa : Hid (na ≤ 2000) := by show na ≤ 2000; rw [← hna]; exact HA.out
        have HLs : Hid (ns ≤ 2000) := by show ns ≤ 2000; rw [← hns]; exact HS.out
        have HSz : Hid (strOfNums (Pw.szL (na % 256) (na / 256) (ns % 256) (ns / 256)) = Pol.litS na ++ Pol.litS ns) := Pw.sizes_lit na ns (by have := HLa.out; omega) (by have := HLs.out; omega)
        have HCv := Lib.hid (Pw.size_text u5 (na % 256) (na / 256) (ns % 256) (ns / 256))
        rw [HSz.out] at HCv
        have m1 : bits .and .i64 (na : Int) 255 = ((na % 256 : Nat) : Int) := Pw.mask255 na (by have := HLa.out; omega)
        have m2 : bits .and .i64 (ns : Int) 255 = ((ns % 256 : Nat) : Int) := Pw.mask255 ns (by have := HLs.out; omega)
        have d1 : (na : Int) / 256 = ((na / 256 : Nat) : Int) := by omega
        have d2 : (ns : Int) / 256 = ((ns / 256 : Nat) : Int) := by omega
        have l1 : na % 256 < 256 := Nat.mod_lt _ (by decide)
        have l2 : na / 256 < 256 := by have := HLa.out; omega
        have l3 : ns % 256 < 256 := Nat.mod_lt _ (by decide)
        have l4 : ns / 256 < 256 := by have := HLs.out; omega
        generalize na % 256 = b1 at m1 l1 HCv
        generalize na / 256 = b2 at d1 l2 HCv
        generalize ns % 256 = b3 at m2 l3 HCv
        generalize ns / 256 = b4 at d2 l4 HCv
        have w1 : IntKind.u8.wrap (b1 : Int) = (b1 : Int) := by show (b1 : Int) % 256 = _; omega
        have w2 : IntKind.u8.wrap (b2 : Int) = (b2 : Int) := by show (b2 : Int) % 256 = _; omega
        have w3 : IntKind.u8.wrap (b3 : Int) = (b3 : Int) := by show (b3 : Int) % 256 = _; omega
        have w4 : IntKind.u8.wrap (b4 : Int) = (b4 : Int) := by show (b4 : Int) % 256 = _; omega
        generalize hSZ : Pol.litS na ++ Pol.litS ns = SZ at HCv
        have HSZ := Lib.hid hSZ
        have zSZ : SZ.size = 16 := by rw [← hSZ, ByteArray.size_append, Pol.litS_size, Pol.litS_size]
        clear hSZ HSz
        apply wp_region_lit
        refine Lw.wpList_val rfl (.string a1) u5 (by go_simp) ?_
        refine Lw.wpList_val rfl (.int .i64 (na : Int)) u5 (by go_simp) ?_
        refine Lw.wpList_val rfl (.int .i64 (b1 : Int)) u5 (by go_simp) ?_
        refine Lw.wpList_val rfl (.int .u8 (b1 : Int)) u5 (by go_simp) ?_
        refine Lw.wpList_val rfl (.string a1) u5 (by go_simp) ?_
        refine Lw.wpList_val rfl (.int .i64 (na : Int)) u5 (by go_simp) ?_
        refine Lw.wpList_val rfl (.int .i64 (b2 : Int)) u5 (by go_simp) ?_
        refine Lw.wpList_val rfl (.int .u8 (b2 : Int)) u5 (by go_simp) ?_
        refine Lw.wpList_val rfl (.string a2) u5 (by go_simp) ?_
        refine Lw.wpList_val rfl (.int .i64 (ns : Int)) u5 (by go_simp) ?_
        refine Lw.wpList_val rfl (.int .i64 (b3 : Int)) u5 (by go_simp) ?_
        refine Lw.wpList_val rfl (.int .u8 (b3 : Int)) u5 (by go_simp) ?_
        refine Lw.wpList_val rfl (.string a2) u5 (by go_simp) ?_
        refine Lw.wpList_val rfl (.int .i64 (ns : Int)) u5 (by go_simp) ?_
        refine Lw.wpList_val rfl (.int .i64 (b4 : Int)) u5 (by go_simp) ?_
        refine Lw.wpList_val rfl (.int .u8 (b4 : Int)) u5 (by go_simp) ?_
        simp only [Act.put, List.setIfInBounds_toArray, List.set_cons_zero, List.set_cons_succ]
        have HD : Hid (u5.alloc (.cells #[.int .u8 b1, .int .u8 b2, .int .u8 0, .int .u8 0, .int .u8 0, .int .u8 0, .int .u8 0, .int .u8 0, .int .u8 b3, .int .u8 b4, .int .u8 0, .int .u8 0, .int .u8 0, .int .u8 0, .int .u8 0, .int .u8 0] 5) = u5.alloc (.cells (Pw.szA b1 b2 b3 b4) 5)) := rfl
        refine Lw.wpList_val rfl (.slice (some ⟨u5.heap.size, 0, none⟩) 16 16) (u5.alloc (.cells (Pw.szA b1 b2 b3 b4) 5)) (by rw [← HD.out]; go_simp) ?_
        have hcv := HCv.out
        have HB : Hid (Below w.heap.size w (u5.alloc (.cells (Pw.szA b1 b2 b3 b4) 5))) := HB.out.alloc HB.out.size _
        clear HD HCv m1 m2 d1 d2 w1 w2 w3 w4 l1 l2 l3 l4
        generalize u5.alloc (.cells (Pw.szA b1 b2 b3 b4) 5) = w6 at hcv HB ⊢
        refine Lw.wpList_val rfl (.string SZ) w6 (by go_simp) ?_
        simp only [Act.put, List.setIfInBounds_toArray, List.set_cons_zero, List.set_cons_succ]
        clear hcv
        go_upto_region 17 with (fail)
        obtain ⟨ra, hra⟩ : ∃ r, na % 16 = r := ⟨_, rfl⟩
        obtain ⟨rs, hrs⟩ : ∃ r, ns % 16 = r := ⟨_, rfl⟩
        obtain ⟨p, hp⟩ : ∃ r, (16 - ra) % 16 = r := ⟨_, rfl⟩
        obtain ⟨q, hq⟩ : ∃ r, (16 - rs) % 16 = r := ⟨_, rfl⟩
        have HQa : Hid ((na : Int) % 16 = (ra : Int) ∧ (na : Int).tmod 16 = (ra : Int) ∧ IntKind.i64.wrap (16 - (ra : Int)) = 16 - (ra : Int) ∧ (16 - (ra : Int)) % 16 = (p : Int) ∧ (16 - (ra : Int)).tmod 16 = (p : Int)) := ⟨by omega, by rw [Int.tmod_eq_emod_of_nonneg (by omega)]; omega, IntWalk.i64_in _ (by omega), by omega, by rw [Int.tmod_eq_emod_of_nonneg (by omega)]; omega⟩
        have HQs : Hid ((ns : Int) % 16 = (rs : Int) ∧ (ns : Int).tmod 16 = (rs : Int) ∧ IntKind.i64.wrap (16 - (rs : Int)) = 16 - (rs : Int) ∧ (16 - (rs : Int)) % 16 = (q : Int) ∧ (16 - (rs : Int)).tmod 16 = (q : Int)) := ⟨by omega, by rw [Int.tmod_eq_emod_of_nonneg (by omega)]; omega, IntWalk.i64_in _ (by omega), by omega, by rw [Int.tmod_eq_emod_of_nonneg (by omega)]; omega⟩
        have HAll : Hid ((((a1 ++ Pol.zS p) ++ XX) ++ Pol.zS q) ++ SZ = Pol.allS a1 XX) := by
          show _ = _
          rw [← HSZ.out, ← Pw.all_parts a1 XX p q (by rw [hna, hra, hp]) (by rw [HNs.out, hrs, hq]), hna, HNs.out]
        obtain ⟨MP, hMP, hMPc, hmkP⟩ := Lw.zeros p (by omega)
        obtain ⟨MQ, hMQ, hMQc, hmkQ⟩ := Lw.zeros q (by omega)
        have HMP : Hid (MP.size = p ∧ ∀ i, i < p → MP[i]? = some (.int .u8 0)) := ⟨hMP, hMPc⟩
        have HMQ : Hid (MQ.size = q ∧ ∀ i, i < q → MQ[i]? = some (.int .u8 0)) := ⟨hMQ, hMQc⟩
        have HcP := Lib.hid (Pw.nought_any p)
        have HcQ := Lib.hid (Pw.nought_any q)
        have zP := Pol.zS_size p
        have zQ := Pol.zS_size q
        have p16 : p < 16 := by omega
        have q16 : q < 16 := by omega
        generalize Pol.zS p = KP at HcP HAll zP
        generalize Pol.zS q = KQ at HcQ HAll zQ
        obtain ⟨FA, eF⟩ : ∃ F, a1 ++ KP = F := ⟨_, rfl⟩
        obtain ⟨T1, eT1⟩ : ∃ F, FA ++ XX = F := ⟨_, rfl⟩
        obtain ⟨T2, eT2⟩ : ∃ F, T1 ++ KQ = F := ⟨_, rfl⟩
        obtain ⟨T3, eT3⟩ : ∃ F, T2 ++ SZ = F := ⟨_, rfl⟩
        rw [eF, eT1, eT2, eT3] at HAll
        obtain ⟨nF, zF⟩ : ∃ n, FA.size = n := ⟨_, rfl⟩
        obtain ⟨nT1, zT1⟩ : ∃ n, T1.size = n := ⟨_, rfl⟩
        obtain ⟨nT2, zT2⟩ : ∃ n, T2.size = n := ⟨_, rfl⟩
        have yF : nF = na + p := by rw [← zF, ← eF, ByteArray.size_append, hna, zP]
        have yT1 : nT1 = nF + ns := by rw [← zT1, ← eT1, ByteArray.size_append, zF, HNs.out]
        have yT2 : nT2 = nT1 + q := by rw [← zT2, ← eT2, ByteArray.size_append, zT1, zQ]
        have lla := HLa.out
        have lls := HLs.out
        have HF1 : Hid (a1 ++ KP = FA ∧ a1.size = na ∧ KP.size = p ∧ ¬ 9223372036854775807 < na + p) := ⟨eF, hna, zP, by omega⟩
        have HF2 : Hid (FA ++ XX = T1 ∧ FA.size = nF ∧ XX.size = ns ∧ ¬ 9223372036854775807 < nF + ns) := ⟨eT1, zF, HNs.out, by omega⟩
        have HF3 : Hid (T1 ++ KQ = T2 ∧ T1.size = nT1 ∧ KQ.size = q ∧ ¬ 9223372036854775807 < nT1 + q) := ⟨eT2, zT1, zQ, by omega⟩
        have HF4 : Hid (T2 ++ SZ = T3 ∧ T2.size = nT2 ∧ SZ.size = 16 ∧ ¬ 9223372036854775807 < nT2 + 16) := ⟨eT3, zT2, zSZ, by omega⟩
        obtain ⟨BX, eBX⟩ : ∃ B, BB.extract 0 32 = B := ⟨_, rfl⟩
        have HBx := Lib.hid eBX
        have HMc : Hid (∀ u, Calls Try.prog 8 #[.string BX, .string T3] u fun e w' => e = .returned (.tuple #[.string TG, .int .i64 0]) ∧ Below u.heap.size u w') := fun u => by
          have h := Pw.mac_fine BX T3 u (by rw [← eBX, ByteArray.size_extract, HZ2.out]; rfl) (by rw [← eT3, ByteArray.size_append, zT2, zSZ]; omega)
          rw [HAll.out, ← eBX, HTg.out] at h
          rw [← HAll.out, eBX] at h
          exact h
        clear hMP hMPc hMQ hMQc eF eT1 eT2 eT3 zF zT1 zT2 yF yT1 yT2 lla lls zP zQ p16 q16 eBX hra hrs hp hq hna hns zSZ HAll HTg HSZ
        refine wp_region_any (by kernel_rfl) ?_
        change wpAny _ _ _ _ _ _ _ w6.drew
        have HB := Lib.hid HB.out.drew
        generalize w6.drew = w7 at HB ⊢
        refine Lw.take_to (i := 0) (some 111) (.string a1) rfl rfl (by kernel_rfl) (by kernel_rfl) (by kernel_rfl) (fun _ _ _ h => h) (Or.inl ⟨by rfl, fun w => by go_simp⟩) ?_
        simp only [Act.put, List.setIfInBounds_toArray, List.set_cons_zero, List.set_cons_succ]
        refine Lw.take_to (i := 1) (some 112) (.string a1) rfl rfl (by kernel_rfl) (by kernel_rfl) (by kernel_rfl) (fun _ _ _ h => h) (Or.inl ⟨by rfl, fun w => by go_simp⟩) ?_
        simp only [Act.put, List.setIfInBounds_toArray, List.set_cons_zero, List.set_cons_succ]
        refine Lw.take_to (i := 2) (some 113) (.int .i64 (na : Int)) rfl rfl (by kernel_rfl) (by kernel_rfl) (by kernel_rfl) (fun _ _ _ h => h) (Or.inl ⟨by rfl, fun w => by have h := HNa.out; go_simp⟩) ?_
        simp only [Act.put, List.setIfInBounds_toArray, List.set_cons_zero, List.set_cons_succ]
        refine Lw.take_to (i := 3) (some 114) (.int .i64 (ra : Int)) rfl rfl (by kernel_rfl) (by kernel_rfl) (by kernel_rfl) (fun _ _ _ h => h) (Or.inl ⟨by rfl, fun w => by have h := HQa.out.1; have h2 := HQa.out.2.1; go_simp⟩) ?_
        simp only [Act.put, List.setIfInBounds_toArray, List.set_cons_zero, List.set_cons_succ]
        refine Lw.take_to (i := 4) (some 115) (.int .i64 (16 - (ra : Int))) rfl rfl (by kernel_rfl) (by kernel_rfl) (by kernel_rfl) (fun _ _ _ h => h) (Or.inl ⟨by rfl, fun w => by have h := HQa.out.2.2.1; go_simp⟩) ?_
        simp only [Act.put, List.setIfInBounds_toArray, List.set_cons_zero, List.set_cons_succ]
        refine Lw.take_to (i := 5) (some 116) (.int .i64 (p : Int)) rfl rfl (by kernel_rfl) (by kernel_rfl) (by kernel_rfl) (fun _ _ _ h => h) (Or.inl ⟨by rfl, fun w => by have h := HQa.out.2.2.2.1; have h2 := HQa.out.2.2.2.2; go_simp⟩) ?_
        simp only [Act.put, List.setIfInBounds_toArray, List.set_cons_zero, List.set_cons_succ]
        refine Lw.take_to (i := 9) (some 120) (.string XX) rfl rfl (by kernel_rfl) (by kernel_rfl) (by kernel_rfl) (fun _ _ _ h => h) (Or.inl ⟨by rfl, fun w => by go_simp⟩) ?_
        simp only [Act.put, List.setIfInBounds_toArray, List.set_cons_zero, List.set_cons_succ]
        refine Lw.take_to (i := 11) (some 122) (.string XX) rfl rfl (by kernel_rfl) (by kernel_rfl) (by kernel_rfl) (fun _ _ _ h => h) (Or.inl ⟨by rfl, fun w => by go_simp⟩) ?_
        simp only [Act.put, List.setIfInBounds_toArray, List.set_cons_zero, List.set_cons_succ]
        refine Lw.take_to (i := 12) (some 123) (.int .i64 (ns : Int)) rfl rfl (by kernel_rfl) (by kernel_rfl) (by kernel_rfl) (fun _ _ _ h => h) (Or.inl ⟨by rfl, fun w => by have h := HNs.out; go_simp⟩) ?_
        simp only [Act.put, List.setIfInBounds_toArray, List.set_cons_zero, List.set_cons_succ]
        refine Lw.take_to (i := 13) (some 124) (.int .i64 (rs : Int)) rfl rfl (by kernel_rfl) (by kernel_rfl) (by kernel_rfl) (fun _ _ _ h => h) (Or.inl ⟨by rfl, fun w => by have h := HQs.out.1; have h2 := HQs.out.2.1; go_simp⟩) ?_
        simp only [Act.put, List.setIfInBounds_toArray, List.set_cons_zero, List.set_cons_succ]
        refine Lw.take_to (i := 14) (some 125) (.int .i64 (16 - (rs : Int))) rfl rfl (by kernel_rfl) (by kernel_rfl) (by kernel_rfl) (fun _ _ _ h => h) (Or.inl ⟨by rfl, fun w => by have h := HQs.out.2.2.1; go_simp⟩) ?_
        simp only [Act.put, List.setIfInBounds_toArray, List.set_cons_zero, List.set_cons_succ]
        refine Lw.take_to (i := 15) (some 126) (.int .i64 (q : Int)) rfl rfl (by kernel_rfl) (by kernel_rfl) (by kernel_rfl) (fun _ _ _ h => h) (Or.inl ⟨by rfl, fun w => by have h := HQs.out.2.2.2.1; have h2 := HQs.out.2.2.2.2; go_simp⟩) ?_
        simp only [Act.put, List.setIfInBounds_toArray, List.set_cons_zero, List.set_cons_succ]
        refine Lw.take_to (i := 19) (some 130) (.string SZ) rfl rfl (by kernel_rfl) (by kernel_rfl) (by kernel_rfl) (fun _ _ _ h => h) (Or.inl ⟨by rfl, fun w => by go_simp⟩) ?_
        simp only [Act.put, List.setIfInBounds_toArray, List.set_cons_zero, List.set_cons_succ]
        refine Lw.meetA (fun (gs : Nat × Nat) a => ((((((a.put (some 117) (.slice (some ⟨gs.1, 0, none⟩) p p)).put (some 118) (.string KP)).put (some 119) (.string FA)).put (some 121) (.string T1)).put (some 127) (.slice (some ⟨gs.2, 0, none⟩) q q)).put (some 128) (.string KQ))) #[true, true, true, true, true, true, true, true, true, true, true, true, true, true, true, true, true, true, false, true, false, false] 3 (fun (gs : Nat × Nat) W => Below w.heap.size w W) ?_ (fun key220 => ?_)
        · rintro ⟨g0, g1⟩ W hb
          simp only [Act.put, List.setIfInBounds_toArray, List.set_cons_zero, List.set_cons_succ]
          have HB := Lib.hid hb
          clear hb
          refine Lw.take_to (i := 18) (some 129) (.string T2) rfl rfl (by kernel_rfl) (by kernel_rfl) (by kernel_rfl) (fun _ _ _ h => h) (Or.inl ⟨by rfl, fun w => by have h := HF3.out.1; have h2 := HF3.out.2.1; have h3 := HF3.out.2.2.1; have h4 := HF3.out.2.2.2; go_simp⟩) ?_
          simp only [Act.put, List.setIfInBounds_toArray, List.set_cons_zero, List.set_cons_succ]
          refine Lw.take_to (i := 20) (some 131) (.string T3) rfl rfl (by kernel_rfl) (by kernel_rfl) (by kernel_rfl) (fun _ _ _ h => h) (Or.inl ⟨by rfl, fun w => by have h := HF4.out.1; have h2 := HF4.out.2.1; have h3 := HF4.out.2.2.1; have h4 := HF4.out.2.2.2; go_simp⟩) ?_
          simp only [Act.put, List.setIfInBounds_toArray, List.set_cons_zero, List.set_cons_succ]
          refine Lw.take_to (i := 21) (some 18) (.string T3) rfl rfl (by kernel_rfl) (by kernel_rfl) (by kernel_rfl) (fun _ _ _ h => h) (Or.inl ⟨by rfl, fun w => by go_simp⟩) ?_
          simp only [Act.put, List.setIfInBounds_toArray, List.set_cons_zero, List.set_cons_succ]
          refine wpAny_done (by kernel_rfl) ?_ _
          have zb := HZ2.out
          have eb := HBx.out
          go_wp2_with (go_at_call 8; fail)
          refine (HMc.out _).mono ?_
          rintro e u9 ⟨rfl, hb⟩
          have HB := Lib.hid (Lw.go_on HB.out hb)
          clear hb zb eb
          have z1 := HZ1.out
          have z3 := HZ3.out
          have ns2 : (ns : Int) ≤ 2000 := by have := HLs.out; omega
          have q16 : ¬ 9223372036854775807 < ns + 16 := by have := HLs.out; omega
          have ee := HE.out
          have hns := HNs.out
          go_wp2_with (go_at_call 14; refine (Lw.num_same _ _).mono ?_; rintro e u ⟨rfl, rfl⟩)
          go_ret
          exact ⟨rfl, HB.out⟩
        simp only [Act.put, List.setIfInBounds_toArray, List.set_cons_zero, List.set_cons_succ] at key220
        have key22 := Lib.hid key220
        clear key220
        refine Lw.meetA (fun (gs : Nat × Nat) a => (((a.put (some 117) (.slice (some ⟨gs.1, 0, none⟩) p p)).put (some 127) (.slice (some ⟨gs.2, 0, none⟩) q q)).put (some 128) (.string KQ))) #[true, true, true, true, true, true, true, false, false, true, false, true, true, true, true, true, true, true, false, true, false, false] 6 (fun (gs : Nat × Nat) W => Below w.heap.size w W ∧ Lw.RowB W gs.1 p (fun _ => 0)) ?_ (fun key120 => ?_)
        · rintro ⟨g0, g1⟩ W ⟨hb, r0⟩
          simp only [Act.put, List.setIfInBounds_toArray, List.set_cons_zero, List.set_cons_succ]
          have cv0 := HcP.out W g0 r0
          refine wpAny_ready (rs := [7]) (by kernel_rfl) (by simp) ?_
          refine ready_one2 (some 118) rfl rfl rfl (.string KP) W (by go_simp) ?_ AllReady.nil
          · simp only [Act.put, List.setIfInBounds_toArray, List.set_cons_zero, List.set_cons_succ]
            refine Lw.take_to (i := 8) (some 119) (.string FA) rfl rfl (by kernel_rfl) (by kernel_rfl) (by kernel_rfl) (fun _ _ _ h => h) (Or.inl ⟨by rfl, fun w => by have h := HF1.out.1; have h2 := HF1.out.2.1; have h3 := HF1.out.2.2.1; have h4 := HF1.out.2.2.2; go_simp⟩) ?_
            simp only [Act.put, List.setIfInBounds_toArray, List.set_cons_zero, List.set_cons_succ]
            refine Lw.take_to (i := 10) (some 121) (.string T1) rfl rfl (by kernel_rfl) (by kernel_rfl) (by kernel_rfl) (fun _ _ _ h => h) (Or.inl ⟨by rfl, fun w => by have h := HF2.out.1; have h2 := HF2.out.2.1; have h3 := HF2.out.2.2.1; have h4 := HF2.out.2.2.2; go_simp⟩) ?_
            simp only [Act.put, List.setIfInBounds_toArray, List.set_cons_zero, List.set_cons_succ]
            exact key22.out (g0, g1) _ (hb)
        simp only [Act.put, List.setIfInBounds_toArray, List.set_cons_zero, List.set_cons_succ] at key120
        have key12 := Lib.hid key120
        clear key120
        refine Lw.meetA (fun (gs : Nat × Nat) a => (((((a.put (some 117) (.slice (some ⟨gs.1, 0, none⟩) p p)).put (some 118) (.string KP)).put (some 119) (.string FA)).put (some 121) (.string T1)).put (some 127) (.slice (some ⟨gs.2, 0, none⟩) q q))) #[true, true, true, true, true, true, true, true, true, true, true, true, true, true, true, true, true, false, false, true, false, false] 4 (fun (gs : Nat × Nat) W => Below w.heap.size w W ∧ Lw.RowB W gs.2 q (fun _ => 0)) ?_ (fun key210 => ?_)
        · rintro ⟨g0, g1⟩ W ⟨hb, r1⟩
          simp only [Act.put, List.setIfInBounds_toArray, List.set_cons_zero, List.set_cons_succ]
          have cv1 := HcQ.out W g1 r1
          refine wpAny_ready (rs := [17]) (by kernel_rfl) (by simp) ?_
          refine ready_one2 (some 128) rfl rfl rfl (.string KQ) W (by go_simp) ?_ AllReady.nil
          · simp only [Act.put, List.setIfInBounds_toArray, List.set_cons_zero, List.set_cons_succ]

            exact key22.out (g0, g1) _ (hb)
        simp only [Act.put, List.setIfInBounds_toArray, List.set_cons_zero, List.set_cons_succ] at key210
        have key21 := Lib.hid key210
        clear key210
        refine Lw.meetA (fun (gs : Nat × Nat) a => ((a.put (some 127) (.slice (some ⟨gs.2, 0, none⟩) q q)).put (some 128) (.string KQ))) #[true, true, true, true, true, true, false, false, false, true, false, true, true, true, true, true, true, true, false, true, false, false] 7 (fun (gs : Nat × Nat) W => Below w.heap.size w W) ?_ (fun key020 => ?_)
        · rintro ⟨g0, g1⟩ W hb
          simp only [Act.put, List.setIfInBounds_toArray, List.set_cons_zero, List.set_cons_succ]
          refine wpAny_ready (rs := [6]) (by kernel_rfl) (by simp) ?_
          refine ready_one2 (some 117) rfl rfl rfl (.slice (some ⟨W.heap.size, 0, none⟩) p p) (W.alloc (.cells MP 5)) (by go_simp) ?_ AllReady.nil
          · simp only [Act.put, List.setIfInBounds_toArray, List.set_cons_zero, List.set_cons_succ]
            exact key12.out (W.heap.size, g1) _ (⟨hb.alloc hb.size _, Lw.rowB_new W MP p HMP.out.1 HMP.out.2⟩)
        simp only [Act.put, List.setIfInBounds_toArray, List.set_cons_zero, List.set_cons_succ] at key020
        have key02 := Lib.hid key020
        clear key020
        refine Lw.meetA (fun (gs : Nat × Nat) a => ((a.put (some 117) (.slice (some ⟨gs.1, 0, none⟩) p p)).put (some 127) (.slice (some ⟨gs.2, 0, none⟩) q q))) #[true, true, true, true, true, true, true, false, false, true, false, true, true, true, true, true, true, false, false, true, false, false] 7 (fun (gs : Nat × Nat) W => Below w.heap.size w W ∧ Lw.RowB W gs.1 p (fun _ => 0) ∧ Lw.RowB W gs.2 q (fun _ => 0)) ?_ (fun key110 => ?_)
        · rintro ⟨g0, g1⟩ W ⟨hb, r0, r1⟩
          simp only [Act.put, List.setIfInBounds_toArray, List.set_cons_zero, List.set_cons_succ]
          have cv0 := HcP.out W g0 r0
          have cv1 := HcQ.out W g1 r1
          refine wpAny_ready (rs := [7, 17]) (by kernel_rfl) (by simp) ?_
          refine ready_one2 (some 118) rfl rfl rfl (.string KP) W (by go_simp) ?_ (ready_one2 (some 128) rfl rfl rfl (.string KQ) W (by go_simp) ?_ AllReady.nil)
          · simp only [Act.put, List.setIfInBounds_toArray, List.set_cons_zero, List.set_cons_succ]
            refine Lw.take_to (i := 8) (some 119) (.string FA) rfl rfl (by kernel_rfl) (by kernel_rfl) (by kernel_rfl) (fun _ _ _ h => h) (Or.inl ⟨by rfl, fun w => by have h := HF1.out.1; have h2 := HF1.out.2.1; have h3 := HF1.out.2.2.1; have h4 := HF1.out.2.2.2; go_simp⟩) ?_
            simp only [Act.put, List.setIfInBounds_toArray, List.set_cons_zero, List.set_cons_succ]
            refine Lw.take_to (i := 10) (some 121) (.string T1) rfl rfl (by kernel_rfl) (by kernel_rfl) (by kernel_rfl) (fun _ _ _ h => h) (Or.inl ⟨by rfl, fun w => by have h := HF2.out.1; have h2 := HF2.out.2.1; have h3 := HF2.out.2.2.1; have h4 := HF2.out.2.2.2; go_simp⟩) ?_
            simp only [Act.put, List.setIfInBounds_toArray, List.set_cons_zero, List.set_cons_succ]
            exact key21.out (g0, g1) _ (⟨hb, r1⟩)
          · simp only [Act.put, List.setIfInBounds_toArray, List.set_cons_zero, List.set_cons_succ]

            exact key12.out (g0, g1) _ (⟨hb, r0⟩)
        simp only [Act.put, List.setIfInBounds_toArray, List.set_cons_zero, List.set_cons_succ] at key110
        have key11 := Lib.hid key110
        clear key110
        refine Lw.meetA (fun (gs : Nat × Nat) a => ((((a.put (some 117) (.slice (some ⟨gs.1, 0, none⟩) p p)).put (some 118) (.string KP)).put (some 119) (.string FA)).put (some 121) (.string T1))) #[true, true, true, true, true, true, true, true, true, true, true, true, true, true, true, true, false, false, false, true, false, false] 5 (fun (gs : Nat × Nat) W => Below w.heap.size w W) ?_ (fun key200 => ?_)
        · rintro ⟨g0, g1⟩ W hb
          simp only [Act.put, List.setIfInBounds_toArray, List.set_cons_zero, List.set_cons_succ]
          refine wpAny_ready (rs := [16]) (by kernel_rfl) (by simp) ?_
          refine ready_one2 (some 127) rfl rfl rfl (.slice (some ⟨W.heap.size, 0, none⟩) q q) (W.alloc (.cells MQ 5)) (by go_simp) ?_ AllReady.nil
          · simp only [Act.put, List.setIfInBounds_toArray, List.set_cons_zero, List.set_cons_succ]
            exact key21.out (g0, W.heap.size) _ (⟨hb.alloc hb.size _, Lw.rowB_new W MQ q HMQ.out.1 HMQ.out.2⟩)
        simp only [Act.put, List.setIfInBounds_toArray, List.set_cons_zero, List.set_cons_succ] at key200
        have key20 := Lib.hid key200
        clear key200
        refine Lw.meetA (fun (gs : Nat × Nat) a => (a.put (some 127) (.slice (some ⟨gs.2, 0, none⟩) q q))) #[true, true, true, true, true, true, false, false, false, true, false, true, true, true, true, true, true, false, false, true, false, false] 8 (fun (gs : Nat × Nat) W => Below w.heap.size w W ∧ Lw.RowB W gs.2 q (fun _ => 0)) ?_ (fun key010 => ?_)
        · rintro ⟨g0, g1⟩ W ⟨hb, r1⟩
          simp only [Act.put, List.setIfInBounds_toArray, List.set_cons_zero, List.set_cons_succ]
          have cv1 := HcQ.out W g1 r1
          refine wpAny_ready (rs := [6, 17]) (by kernel_rfl) (by simp) ?_
          refine ready_one2 (some 117) rfl rfl rfl (.slice (some ⟨W.heap.size, 0, none⟩) p p) (W.alloc (.cells MP 5)) (by go_simp) ?_ (ready_one2 (some 128) rfl rfl rfl (.string KQ) W (by go_simp) ?_ AllReady.nil)
          · simp only [Act.put, List.setIfInBounds_toArray, List.set_cons_zero, List.set_cons_succ]
            exact key11.out (W.heap.size, g1) _ (⟨hb.alloc hb.size _, Lw.rowB_new W MP p HMP.out.1 HMP.out.2, World.rowIs.alloc r1 _⟩)
          · simp only [Act.put, List.setIfInBounds_toArray, List.set_cons_zero, List.set_cons_succ]

            exact key02.out (0, g1) _ (hb)
        simp only [Act.put, List.setIfInBounds_toArray, List.set_cons_zero, List.set_cons_succ] at key010
        have key01 := Lib.hid key010
        clear key010
        refine Lw.meetA (fun (gs : Nat × Nat) a => (a.put (some 117) (.slice (some ⟨gs.1, 0, none⟩) p p))) #[true, true, true, true, true, true, true, false, false, true, false, true, true, true, true, true, false, false, false, true, false, false] 8 (fun (gs : Nat × Nat) W => Below w.heap.size w W ∧ Lw.RowB W gs.1 p (fun _ => 0)) ?_ (fun key100 => ?_)
        · rintro ⟨g0, g1⟩ W ⟨hb, r0⟩
          simp only [Act.put, List.setIfInBounds_toArray, List.set_cons_zero, List.set_cons_succ]
          have cv0 := HcP.out W g0 r0
          refine wpAny_ready (rs := [7, 16]) (by kernel_rfl) (by simp) ?_
          refine ready_one2 (some 118) rfl rfl rfl (.string KP) W (by go_simp) ?_ (ready_one2 (some 127) rfl rfl rfl (.slice (some ⟨W.heap.size, 0, none⟩) q q) (W.alloc (.cells MQ 5)) (by go_simp) ?_ AllReady.nil)
          · simp only [Act.put, List.setIfInBounds_toArray, List.set_cons_zero, List.set_cons_succ]
            refine Lw.take_to (i := 8) (some 119) (.string FA) rfl rfl (by kernel_rfl) (by kernel_rfl) (by kernel_rfl) (fun _ _ _ h => h) (Or.inl ⟨by rfl, fun w => by have h := HF1.out.1; have h2 := HF1.out.2.1; have h3 := HF1.out.2.2.1; have h4 := HF1.out.2.2.2; go_simp⟩) ?_
            simp only [Act.put, List.setIfInBounds_toArray, List.set_cons_zero, List.set_cons_succ]
            refine Lw.take_to (i := 10) (some 121) (.string T1) rfl rfl (by kernel_rfl) (by kernel_rfl) (by kernel_rfl) (fun _ _ _ h => h) (Or.inl ⟨by rfl, fun w => by have h := HF2.out.1; have h2 := HF2.out.2.1; have h3 := HF2.out.2.2.1; have h4 := HF2.out.2.2.2; go_simp⟩) ?_
            simp only [Act.put, List.setIfInBounds_toArray, List.set_cons_zero, List.set_cons_succ]
            exact key20.out (g0, 0) _ (hb)
          · simp only [Act.put, List.setIfInBounds_toArray, List.set_cons_zero, List.set_cons_succ]
            exact key11.out (g0, W.heap.size) _ (⟨hb.alloc hb.size _, World.rowIs.alloc r0 _, Lw.rowB_new W MQ q HMQ.out.1 HMQ.out.2⟩)
        simp only [Act.put, List.setIfInBounds_toArray, List.set_cons_zero, List.set_cons_succ] at key100
        have key10 := Lib.hid key100
        clear key100
        refine wpAny_ready (rs := [6, 16]) (by kernel_rfl) (by simp) ?_
        refine ready_one2 (some 117) rfl rfl rfl (.slice (some ⟨w7.heap.size, 0, none⟩) p p) (w7.alloc (.cells MP 5)) (by go_simp) ?_ (ready_one2 (some 127) rfl rfl rfl (.slice (some ⟨w7.heap.size, 0, none⟩) q q) (w7.alloc (.cells MQ 5)) (by go_simp) ?_ AllReady.nil)
        · simp only [Act.put, List.setIfInBounds_toArray, List.set_cons_zero, List.set_cons_succ]
          exact key10.out (w7.heap.size, 0) _ (⟨HB.out.alloc HB.out.size _, Lw.rowB_new w7 MP p HMP.out.1 HMP.out.2⟩)
        · simp only [Act.put, List.setIfInBounds_toArray, List.set_cons_zero, List.set_cons_succ]
          exact key01.out (0, w7.heap.size) _ (⟨HB.out.alloc HB.out.size _, Lw.rowB_new w7 MQ q HMQ.out.1 HMQ.out.2⟩)

set_option maxRecDepth 100000 in
theorem lifted (os : Os) (started : os.Started) (H : Type) (enc : TypeId × Value → H) :
    ReturnsInHanded {} Try.checked os 6 .any (Rows.polyPartsSpec.pre6 enc Try.prog Try.f6 Rows.polyPartsRow.domain false) (Rows.polyPartsSpec.post enc Try.prog Try.f6 false true false false) := by
  refine returnsInHanded_of_change (C := Try.checked) own started (by kernel_rfl) Try.func6
    (ChangeSpec.witness6 (enc := enc) (C := Try.checked) false ⟨#[], #[.string ByteArray.empty, .string ByteArray.empty, .string ByteArray.empty], []⟩ 8 (by kernel_rfl) (by kernel_rfl) (by kernel_rfl) (by kernel_rfl)) ?_
  intro W base args ds gs before hval0 hW hcnd _
  have hval : ∀ (j : Nat) t v, Try.f6.params[j]? = some t → args[j]? = some v → Value.okWide Try.prog W .any base t v := hval0
  have hW' := hW
  obtain ⟨p, q, hA0, hV, rfl, hfz, hnd⟩ := hW
  have hA : DataW.TrodAll enc Try.prog W 0 (fun _ => true) true Try.f6.params.toList args.toList ds p := hA0
  rw [Try.params6] at hA hval
  obtain ⟨v0, vs0, d0, ds0, p0, q0, hargs, rfl, rfl, h0, r0⟩ := trodAll_cons hA
  obtain ⟨v1, vs1, d1, ds1, p1, q1, rfl, rfl, rfl, h1, r1⟩ := trodAll_cons r0
  obtain ⟨v2, vs2, d2, ds2, p2, q2, rfl, rfl, rfl, h2, r2⟩ := trodAll_cons r1
  obtain ⟨rfl, rfl, rfl⟩ := trodAll_nil r2
  obtain rfl : args = #[v0, v1, v2] := by cases args; simp_all
  obtain ⟨rfl, rfl⟩ := trodVars_none hV
  obtain ⟨a0, rfl, rfl, rfl, w0⟩ := open_string Try.underlying9 (hval 0 9 v0 rfl rfl) h0
  obtain ⟨a1, rfl, rfl, rfl, w1⟩ := open_string Try.underlying9 (hval 1 9 v1 rfl rfl) h1
  obtain ⟨a2, rfl, rfl, rfl, w2⟩ := open_string Try.underlying9 (hval 2 9 v2 rfl rfl) h2
  clear hA0 hval0
  simp only [List.append_nil] at hW'
  refine (walk a0 a1 a2 w0 w1 w2 W).mono fun e W' ⟨he, bel⟩ => ?_
  subst he
  exact ⟨_, rfl, _, _, _, [], [], [], hW', trodAll_mk1 (shut_bool Try.underlying4 _), (trodAll_cons_mk (shut_string Try.underlying9 w0) (trodAll_cons_mk (shut_string Try.underlying9 w1) (trodAll_cons_mk (shut_string Try.underlying9 w2) trodAll_mk0))), rfl, bel.frame _, fun h => by cases h⟩

theorem over : Rows.polyPartsRow.holds Try.pinned (OpenSpec.ofChange Rows.polyPartsSpec) :=
  OpenClaim.holds_of_wide 6 Try.f6 rfl rfl rfl rfl rfl rfl rfl ⟨rfl, rfl, rfl, rfl, rfl⟩ rfl rfl rfl rfl rfl (by kernel_rfl) Try.func6 (by kernel_rfl)
    (of_decide_eq_true (by kernel_rfl)) (by unfold Func.isWrapper; first | (rw [if_pos (by decide +kernel)]; kernel_rfl) | (rw [if_neg (by decide +kernel)]; exact ⟨rfl, rfl⟩))
    (fun os started H enc _ => lifted os started H enc)

theorem proved : Rows.PolyPartsSaid :=
  over
#print axioms proved
end Go.Proofs.Ytijpfaknbgbphaa.polyParts
