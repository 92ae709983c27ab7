/-
  AeadPlaces (P8.2): at every text, cut into two segments anywhere, OpenIn and SealIn leave and answer what the document's own Open and Seal say.
-/
import Derived.Test.YtljhenjbjondkaaGreatJocb
import Derived.Test.YtljhenjbjondkaaGreatRows
import Derived.WalkKit
import Derived.ProofKit
import Derived.OpenShut
import Derived.ShutString
import Derived.Below
import Derived.ChangeOld
namespace Go.Proofs.YtljhenjbjondkaaGreat.aeadPlaces
open Go.ChangeShapes Go.WideShapes Go.ChangeAt Go.RowKit
open Go.ChangeMaps (open_string shut_string)
set_option linter.unusedVariables false

theorem own : ownKnob Tryz.prog.godebug = none := by kernel_rfl

set_option maxHeartbeats 8000000 in
set_option maxRecDepth 100000 in
theorem walk (a0 : Int) (a1 : ByteArray) (a2 : ByteArray) (a3 : ByteArray) (a4 : ByteArray) (a5 : Int) (_w0 : (Lit.int .i64 a0).wf = true) (_w1 : a1.size ≤ maxLen) (_w2 : a2.size ≤ maxLen) (_w3 : a3.size ≤ maxLen) (_w4 : a4.size ≤ maxLen) (_w5 : (Lit.int .i64 a5).wf = true) (w : World) :
    Calls Tryz.prog 4 #[.int .i64 a0, .string a1, .string a2, .string a3, .string a4, .int .i64 a5] w fun e w' => e = .returned (.bool true) ∧ Below w.heap.size w w' := by
  have HB : Hid (Below w.heap.size w w) := Below.refl _ _
  clear _w0 _w1 _w2 _w3 _w4 _w5
  by_cases hs : 5000 < a4.size
  · have e3 : ((5000 : Int) < (a4.size : Int)) = True := eq_true (by omega)
    clear hs
    go_enter Tryz.func4, Tryz.ntmps4
    go_wp2_with (fail)
    go_ret
    exact ⟨rfl, HB.out⟩
  have e3 : ((5000 : Int) < (a4.size : Int)) = False := eq_false (by omega)
  obtain ⟨n, hn⟩ : ∃ n, a4.size = n := ⟨_, rfl⟩
  rw [hn] at e3
  have n5 : n ≤ 5000 := by omega
  have HN5 := Lib.hid n5
  have HNs := Lib.hid hn
  obtain ⟨k, hk, hq1, hq2⟩ := Ew.cut_of a5 n
  have HK := Lib.hid hk
  have hd : n + 1 < 5002 := by omega
  have hw : IntKind.u64.wrap ((n : Int) + 1) = (n : Int) + 1 := by show _ % 18446744073709551616 = _; omega
  have hn1 : (n : Int) ≤ 5000 := by omega
  have hkl : (k : Int) ≤ 5000 := by omega
  have hki : IntKind.i64.wrap (k : Int) = (k : Int) := IntWalk.i64_in _ (by omega)
  have hbr := fun W => Ew.bytes_run W a4
  have HSg := Lib.hid (fun W => Ew.bytes_seg W a4)
  rw [hn] at hbr HSg
  have HPb : Hid (Lw.pieceS (Aes.byt a4) 0 n = a4) := by rw [← hn]; exact Ew.piece_byt a4
  have HWb := Lib.hid (fun W => Ew.bytes_below W a4)
  generalize Aes.byt a4 = Xb at HSg HPb
  clear hs n5
  go_enter Tryz.func4, Tryz.ntmps4
  go_upto_region 4 with (fail)
  clear hq1 hq2 hd hw hki
  have hc1 := grownCap_ge w n 0 5
  have hc2 := grownCap_ge (Ew.bytesW w a4) n 0 5
  go_upto_region 5 with (fail)
  clear hbr
  have HSx := Lib.hid ((HSg.out w).on (HWb.out (Ew.bytesW w a4)))
  have HSy := Lib.hid (HSg.out (Ew.bytesW w a4))
  have HB : Hid (Below w.heap.size w (Ew.bytesW (Ew.bytesW w a4) a4)) := Lw.go_on (HWb.out w) (HWb.out (Ew.bytesW w a4))
  have HGy : Hid (w.heap.size < (Ew.bytesW w a4).heap.size) := (HSg.out w).lt
  clear HSg HWb
  generalize Ew.bytesW (Ew.bytesW w a4) a4 = v0 at HSx HSy HB ⊢
  generalize (Ew.bytesW w a4).heap.size = gy at HSy HGy ⊢
  generalize grownCap (Ew.bytesW w a4) n 0 5 = C2 at hc2 ⊢
  generalize grownCap w n 0 5 = C1 at hc1 ⊢
  obtain ⟨gx, hgx⟩ : ∃ gx, w.heap.size = gx := ⟨_, rfl⟩
  rw [hgx] at HSx HGy ⊢
  have HGx := Lib.hid hgx
  clear hgx
  have d1 : (k : Int) ≤ (C1 : Int) := by have := HK.out; omega
  have d2 : (k : Int) ≤ (C2 : Int) := by have := HK.out; omega
  have d3 : (k : Int) ≤ (n : Int) := by have := HK.out; omega
  have d4 : (n : Int) ≤ (C1 : Int) := by omega
  have d5 : (n : Int) ≤ (C2 : Int) := by omega
  obtain ⟨m, hm⟩ : ∃ m, n - k = m := ⟨_, rfl⟩
  have d6 : (n : Int) - (k : Int) = (m : Int) := by have := HK.out; omega
  have HKm : Hid (k + m = n) := by show k + m = n; have := HK.out; omega
  have HPf1 : Hid (k ≤ C1 ∧ m ≤ C1 - k ∧ (m = 0 ∨ (if C1 = k then some (⟨gx, 0, none⟩ : Addr) else some ⟨gx, k, none⟩) = some ⟨gx, k, none⟩)) := by
    refine (show _ ∧ _ ∧ (_ ∨ _) from ⟨by have := HKm.out; omega, by have := HKm.out; omega, ?_⟩)
    by_cases hc : C1 = k
    · exact .inl (by have := HKm.out; omega)
    · exact .inr (if_neg hc)
  have HPf2 : Hid (k ≤ C2 ∧ m ≤ C2 - k ∧ (m = 0 ∨ (if C2 = k then some (⟨gy, 0, none⟩ : Addr) else some ⟨gy, k, none⟩) = some ⟨gy, k, none⟩)) := by
    refine (show _ ∧ _ ∧ (_ ∨ _) from ⟨by have := HKm.out; omega, by have := HKm.out; omega, ?_⟩)
    by_cases hc : C2 = k
    · exact .inl (by have := HKm.out; omega)
    · exact .inr (if_neg hc)
  have HOI : Hid (∀ (u : World) (p2 : Option Addr) (c1 c2 : Nat), Ew.Seg u gx 0 n Xb → (k ≤ c1 ∧ m ≤ c2 ∧ (m = 0 ∨ p2 = some ⟨gx, k, none⟩)) → Calls Tryz.prog 13 #[.int .i64 a0, .string a1, .string a2, .string a3, .slice (some ⟨gx, 0, none⟩) k c1, .slice p2 m c2] u fun e w' =>
      e = .returned (.tuple #[.int .i64 ((Ad.o8S a0 a1 a2 a3 a4).size : Nat), .int .i64 (Ad.o8E a0 a1 a2 a3 a4)]) ∧ Pd.But gx u w' ∧ ∃ Y, Ew.Seg w' gx 0 n Y ∧ Lw.pieceS Y 0 n = Ad.o8X a0 a1 a2 a3 a4) := fun u p2 c1 c2 hs hp => by
    have h := Ed.openIn_any a0 a1 a2 a3 gx 0 k m n c1 c2 (some ⟨gx, 0, none⟩) p2 Xb u hs (.inr rfl) (by rw [Nat.zero_add]; exact hp.2.2) HKm.out (by have := HN5.out; omega) hp.1 hp.2.1
    rw [HPb.out] at h
    exact h
  have HSI : Hid (∀ (u : World) (p2 : Option Addr) (c1 c2 : Nat), Ew.Seg u gy 0 n Xb → (k ≤ c1 ∧ m ≤ c2 ∧ (m = 0 ∨ p2 = some ⟨gy, k, none⟩)) → Calls Tryz.prog 14 #[.int .i64 a0, .string a1, .string a2, .string a3, .slice (some ⟨gy, 0, none⟩) k c1, .slice p2 m c2] u fun e w' =>
      e = .returned (.int .i64 (Ad.i8E a0 a1 a2 a3 a4)) ∧ Pd.But gy u w' ∧ ∃ Y, Ew.Seg w' gy 0 n Y ∧ Lw.pieceS Y 0 n = Ad.i8X a0 a1 a2 a3 a4) := fun u p2 c1 c2 hs hp => by
    have h := Ed.sealIn_any a0 a1 a2 a3 gy 0 k m n c1 c2 (some ⟨gy, 0, none⟩) p2 Xb u hs (.inr rfl) (by rw [Nat.zero_add]; exact hp.2.2) HKm.out (by have := HN5.out; omega) hp.1 hp.2.1
    rw [HPb.out] at h
    exact h
  have HRo := Lib.hid (fun u => Ad.r8open_any a0 a1 a2 a3 a4 u)
  have HCa := Lib.hid (Ew.o8_cases a0 a1 a2 a3 a4)
  have HSh := Lib.hid (Ew.i8_short a0 a1 a2 a3 a4)
  have HLo := Lib.hid (Ew.i8_long a0 a1 a2 a3 a4)
  rw [HNs.out] at HCa HSh HLo
  have HRs := Lib.hid (fun u => Ad.r8seal_any a0 a1 a2 a3 (a4.extract 0 (n - 16)) u)
  generalize Ad.o8S a0 a1 a2 a3 a4 = P at HOI HRo HCa
  generalize Ad.o8E a0 a1 a2 a3 a4 = E at HOI HRo HCa
  generalize Ad.o8X a0 a1 a2 a3 a4 = V at HOI HCa
  generalize Ad.i8E a0 a1 a2 a3 a4 = F at HSI HSh HLo
  generalize Ad.i8X a0 a1 a2 a3 a4 = U at HSI HSh HLo
  generalize Ad.s8S a0 a1 a2 a3 (a4.extract 0 (n - 16)) = Q at HRs HLo
  generalize Ad.s8E a0 a1 a2 a3 (a4.extract 0 (n - 16)) = G at HRs HLo
  obtain ⟨np, hnp⟩ : ∃ np, P.size = np := ⟨_, rfl⟩
  rw [hnp] at HOI HCa
  have HNp := Lib.hid hnp
  clear hnp
  have hSd := HSx.out.drew
  have HSyd := Lib.hid HSy.out.drew
  have HBd : Hid (Below w.heap.size w v0.drew) := HB.out.drew
  clear HB HSx HSy
  refine wp_region_any (by kernel_rfl) ?_
  change wpAny _ _ _ _ _ _ _ v0.drew
  generalize v0.drew = vd at hSd HSyd HBd ⊢
  refine Lw.take_to (i := 0) (some 40) (.int .i64 a0) rfl rfl (by kernel_rfl) (by kernel_rfl) (by kernel_rfl) (fun _ _ _ h => h) (Or.inl ⟨by rfl, fun w => by go_simp⟩) ?_
  refine Lw.take_to (i := 1) (some 41) (.string a1) rfl rfl (by kernel_rfl) (by kernel_rfl) (by kernel_rfl) (fun _ _ _ h => h) (Or.inl ⟨by rfl, fun w => by go_simp⟩) ?_
  refine Lw.take_to (i := 2) (some 42) (.string a2) rfl rfl (by kernel_rfl) (by kernel_rfl) (by kernel_rfl) (fun _ _ _ h => h) (Or.inl ⟨by rfl, fun w => by go_simp⟩) ?_
  refine Lw.take_to (i := 3) (some 43) (.string a3) rfl rfl (by kernel_rfl) (by kernel_rfl) (by kernel_rfl) (fun _ _ _ h => h) (Or.inl ⟨by rfl, fun w => by go_simp⟩) ?_
  refine Lw.take_to (i := 4) (some 44) (.slice (some ⟨gx, 0, none⟩) n C1) rfl rfl (by kernel_rfl) (by kernel_rfl) (by kernel_rfl) (fun _ _ _ h => h) (Or.inl ⟨by rfl, fun w => by go_simp⟩) ?_
  refine Lw.take_to (i := 5) (some 45) (.int .i64 (k : Int)) rfl rfl (by kernel_rfl) (by kernel_rfl) (by kernel_rfl) (fun _ _ _ h => h) (Or.inl ⟨by rfl, fun w => by go_simp⟩) ?_
  refine Lw.take_to (i := 6) (some 46) (.slice (some ⟨gx, 0, none⟩) k C1) rfl rfl (by kernel_rfl) (by kernel_rfl) (by kernel_rfl) (fun _ _ _ h => h) (Or.inl ⟨by rfl, fun w => by go_simp⟩) ?_
  refine Lw.take_to (i := 7) (some 47) (.slice (some ⟨gx, 0, none⟩) n C1) rfl rfl (by kernel_rfl) (by kernel_rfl) (by kernel_rfl) (fun _ _ _ h => h) (Or.inl ⟨by rfl, fun w => by go_simp⟩) ?_
  refine Lw.take_to (i := 8) (some 48) (.int .i64 (k : Int)) rfl rfl (by kernel_rfl) (by kernel_rfl) (by kernel_rfl) (fun _ _ _ h => h) (Or.inl ⟨by rfl, fun w => by go_simp⟩) ?_
  refine Lw.take_to (i := 9) (some 49) (.slice (if C1 = k then some ⟨gx, 0, none⟩ else some ⟨gx, k, none⟩) m (C1 - k)) rfl rfl (by kernel_rfl) (by kernel_rfl) (by kernel_rfl) (fun _ _ _ h => h) (Or.inl ⟨by rfl, fun w => by go_simp⟩) ?_
  simp only [Act.put, List.setIfInBounds_toArray, List.set_cons_zero, List.set_cons_succ]
  refine wpAny_ready (rs := [10]) (by kernel_rfl) (by simp) ?_
  refine Rt.ready_callTo (some 50) rfl rfl rfl 13 _ _ rfl (fun _ _ => by go_simp) #[.int .i64 a0, .string a1, .string a2, .string a3, .slice (some ⟨gx, 0, none⟩) k C1, .slice (if C1 = k then some ⟨gx, 0, none⟩ else some ⟨gx, k, none⟩) m (C1 - k)] (by kernel_rfl) ?_ AllReady.nil
  refine (HOI.out _ _ _ _ hSd HPf1.out).mono ?_
  rintro e u1 ⟨rfl, hbut, Y, hY, hYt⟩
  refine ⟨_, rfl, ?_⟩
  simp only [Act.put, List.setIfInBounds_toArray, List.set_cons_zero, List.set_cons_succ]
  refine Lw.take_to (i := 11) (some 39) (.tuple #[.int .i64 (np : Nat), .int .i64 E]) rfl rfl (by kernel_rfl) (by kernel_rfl) (by kernel_rfl) (fun _ _ _ h => h) (Or.inl ⟨by rfl, fun w => by go_simp⟩) ?_
  refine Lw.take_to (i := 12) (some 51) (.int .i64 (np : Nat)) rfl rfl (by kernel_rfl) (by kernel_rfl) (by kernel_rfl) (fun _ _ _ h => h) (Or.inl ⟨by rfl, fun w => by go_simp⟩) ?_
  refine Lw.take_to (i := 13) (some 52) (.int .i64 E) rfl rfl (by kernel_rfl) (by kernel_rfl) (by kernel_rfl) (fun _ _ _ h => h) (Or.inl ⟨by rfl, fun w => by go_simp⟩) ?_
  refine Lw.take_to (i := 14) (some 16) (.int .i64 (np : Nat)) rfl rfl (by kernel_rfl) (by kernel_rfl) (by kernel_rfl) (fun _ _ _ h => h) (Or.inl ⟨by rfl, fun w => by go_simp⟩) ?_
  refine Lw.take_to (i := 15) (some 17) (.int .i64 E) rfl rfl (by kernel_rfl) (by kernel_rfl) (by kernel_rfl) (fun _ _ _ h => h) (Or.inl ⟨by rfl, fun w => by go_simp⟩) ?_
  simp only [Act.put, List.setIfInBounds_toArray, List.set_cons_zero, List.set_cons_succ]
  refine wpAny_done (by kernel_rfl) ?_ _
  generalize (if C1 = k then some (⟨gx, 0, none⟩ : Addr) else some ⟨gx, k, none⟩) = ppgx
  have HB : Hid (Below w.heap.size w u1) := hbut.below HBd.out (Nat.le_of_eq HGx.out) HBd.out.size
  have HSx := Lib.hid hY
  have HVt := Lib.hid hYt
  have HSy := Lib.hid (HSyd.out.but hbut (Nat.ne_of_gt HGy.out))
  clear hbut hY hYt HBd hSd HSyd HOI HPf1 d1 d4
  go_wp2_with (go_at_call 10; fail)
  refine (HRo.out _).mono ?_
  rintro e u2 ⟨rfl, hb⟩
  have HSx := Lib.hid (HSx.out.on hb)
  have HSy := Lib.hid (HSy.out.on hb)
  have HB : Hid (Below w.heap.size w u2) := HB.out.trans (hb.mono HB.out.size)
  have hct := HSx.out.text C1
  rw [HVt.out] at hct
  clear hb HRo HSx HVt
  have hn := HNs.out
  have hnp := HNp.out
  rcases HCa.out with ⟨rfl, hV, hP⟩ | ⟨hE, rfl, rfl⟩
  · have p1 : (np : Int) ≤ (n : Int) := by omega
    have q1 : ¬ 9223372036854775807 < np + (n - np) := by have := HN5.out; omega
    have HVe := Lib.hid hV
    clear hV hP HCa
    have hve := HVe.out
    go_upto_region 12 with (go_at_call 11; refine (Lw.num_same _ _).mono ?_; rintro e u2 ⟨rfl, rfl⟩)
    clear hct
    have hSd := HSy.out.drew
    have HBd : Hid (Below w.heap.size w u2.drew) := HB.out.drew
    clear HSy HB
    refine wp_region_any (by kernel_rfl) ?_
    change wpAny _ _ _ _ _ _ _ u2.drew
    generalize u2.drew = ve at hSd HBd ⊢
    refine Lw.take_to (i := 0) (some 87) (.int .i64 a0) rfl rfl (by kernel_rfl) (by kernel_rfl) (by kernel_rfl) (fun _ _ _ h => h) (Or.inl ⟨by rfl, fun w => by go_simp⟩) ?_
    refine Lw.take_to (i := 1) (some 88) (.string a1) rfl rfl (by kernel_rfl) (by kernel_rfl) (by kernel_rfl) (fun _ _ _ h => h) (Or.inl ⟨by rfl, fun w => by go_simp⟩) ?_
    refine Lw.take_to (i := 2) (some 89) (.string a2) rfl rfl (by kernel_rfl) (by kernel_rfl) (by kernel_rfl) (fun _ _ _ h => h) (Or.inl ⟨by rfl, fun w => by go_simp⟩) ?_
    refine Lw.take_to (i := 3) (some 90) (.string a3) rfl rfl (by kernel_rfl) (by kernel_rfl) (by kernel_rfl) (fun _ _ _ h => h) (Or.inl ⟨by rfl, fun w => by go_simp⟩) ?_
    refine Lw.take_to (i := 4) (some 91) (.slice (some ⟨gy, 0, none⟩) n C2) rfl rfl (by kernel_rfl) (by kernel_rfl) (by kernel_rfl) (fun _ _ _ h => h) (Or.inl ⟨by rfl, fun w => by go_simp⟩) ?_
    refine Lw.take_to (i := 5) (some 92) (.int .i64 (k : Int)) rfl rfl (by kernel_rfl) (by kernel_rfl) (by kernel_rfl) (fun _ _ _ h => h) (Or.inl ⟨by rfl, fun w => by go_simp⟩) ?_
    refine Lw.take_to (i := 6) (some 93) (.slice (some ⟨gy, 0, none⟩) k C2) rfl rfl (by kernel_rfl) (by kernel_rfl) (by kernel_rfl) (fun _ _ _ h => h) (Or.inl ⟨by rfl, fun w => by go_simp⟩) ?_
    refine Lw.take_to (i := 7) (some 94) (.slice (some ⟨gy, 0, none⟩) n C2) rfl rfl (by kernel_rfl) (by kernel_rfl) (by kernel_rfl) (fun _ _ _ h => h) (Or.inl ⟨by rfl, fun w => by go_simp⟩) ?_
    refine Lw.take_to (i := 8) (some 95) (.int .i64 (k : Int)) rfl rfl (by kernel_rfl) (by kernel_rfl) (by kernel_rfl) (fun _ _ _ h => h) (Or.inl ⟨by rfl, fun w => by go_simp⟩) ?_
    refine Lw.take_to (i := 9) (some 96) (.slice (if C2 = k then some ⟨gy, 0, none⟩ else some ⟨gy, k, none⟩) m (C2 - k)) rfl rfl (by kernel_rfl) (by kernel_rfl) (by kernel_rfl) (fun _ _ _ h => h) (Or.inl ⟨by rfl, fun w => by go_simp⟩) ?_
    simp only [Act.put, List.setIfInBounds_toArray, List.set_cons_zero, List.set_cons_succ]
    refine wpAny_ready (rs := [10]) (by kernel_rfl) (by simp) ?_
    refine Rt.ready_callTo (some 97) rfl rfl rfl 14 _ _ rfl (fun _ _ => by go_simp) #[.int .i64 a0, .string a1, .string a2, .string a3, .slice (some ⟨gy, 0, none⟩) k C2, .slice (if C2 = k then some ⟨gy, 0, none⟩ else some ⟨gy, k, none⟩) m (C2 - k)] (by kernel_rfl) ?_ AllReady.nil
    refine (HSI.out _ _ _ _ hSd HPf2.out).mono ?_
    rintro e u3 ⟨rfl, hbut, Y2, hY, hYt⟩
    refine ⟨_, rfl, ?_⟩
    simp only [Act.put, List.setIfInBounds_toArray, List.set_cons_zero, List.set_cons_succ]
    refine Lw.take_to (i := 11) (some 21) (.int .i64 F) rfl rfl (by kernel_rfl) (by kernel_rfl) (by kernel_rfl) (fun _ _ _ h => h) (Or.inl ⟨by rfl, fun w => by go_simp⟩) ?_
    simp only [Act.put, List.setIfInBounds_toArray, List.set_cons_zero, List.set_cons_succ]
    refine wpAny_done (by kernel_rfl) ?_ _
    generalize (if C2 = k then some (⟨gy, 0, none⟩ : Addr) else some ⟨gy, k, none⟩) = ppgy
    have HB : Hid (Below w.heap.size w u3) := hbut.below HBd.out (by rw [HGx.out]; exact Nat.le_of_lt HGy.out) HBd.out.size
    have HSy := Lib.hid hY
    have HUt := Lib.hid hYt
    clear hbut hY hYt HBd hSd HSI HPf2
    have AWB : Hid (∀ u, Below w.heap.size w u → Calls Tryz.prog 12 #[] u fun e w' => e = .returned (.bool true) ∧ Below w.heap.size w w') := fun u hu => (Ew.awake8_any u).mono fun _ _ ⟨h1, h2⟩ => ⟨h1, hu.trans (h2.mono hu.size)⟩
    by_cases h16 : n < 16
    · obtain ⟨hF, hU⟩ := HSh.out h16
      have l16 : ((n : Int) < 16) = True := eq_true (by omega)
      have hct := HSy.out.text C2
      rw [HUt.out, hU] at hct
      rw [hF]
      clear hF hU h16
      go_wp2_with (first | (go_at_call 11; refine (Lw.num_same _ _).mono ?_; rintro e u ⟨rfl, rfl⟩) | (go_at_call 12; refine (AWB.out _ HB.out).mono ?_; rintro e u4 ⟨rfl, hb⟩))
      go_ret
      exact ⟨rfl, hb⟩
    · have l16 : ((n : Int) < 16) = False := eq_false (by omega)
      have z1 : (n : Int) - 16 ≤ (n : Int) := by omega
      have z2 : (16 : Int) ≤ (n : Int) := by omega
      obtain ⟨j, hj⟩ : ∃ j, n - 16 = j := ⟨_, rfl⟩
      have hlo := HLo.out (by omega)
      rw [hj] at HRs
      have z3 : (n : Int) - 16 = (j : Int) := by omega
      have z4 : (j : Int) ≤ (n : Int) := by omega
      clear h16 HLo hj
      go_wp2_with (go_at_call 8; fail)
      refine (HRs.out _).mono ?_
      rintro e u5 ⟨rfl, hb⟩
      have HB : Hid (Below w.heap.size w u5) := HB.out.trans (hb.mono HB.out.size)
      have hct := (HSy.out.on hb).text C2
      rw [HUt.out] at hct
      clear hb HRs
      rcases hlo with ⟨rfl, rfl, hU⟩ | ⟨rfl, rfl, hU⟩
      · rw [hU] at hct
        go_wp2_with (first | (go_at_call 11; refine (Lw.num_same _ _).mono ?_; rintro e u ⟨rfl, rfl⟩) | (go_at_call 12; refine (AWB.out _ HB.out).mono ?_; rintro e u4 ⟨rfl, hb⟩))
        go_ret
        exact ⟨rfl, hb⟩
      · rw [hU] at hct
        go_wp2_with (first | (go_at_call 11; refine (Lw.num_same _ _).mono ?_; rintro e u ⟨rfl, rfl⟩) | (go_at_call 12; refine (AWB.out _ HB.out).mono ?_; rintro e u4 ⟨rfl, hb⟩))
        go_ret
        exact ⟨rfl, hb⟩
  · have e0 : (E == 0) = false := by rcases hE with rfl | rfl <;> rfl
    have e1 : (E = 0) = False := by rcases hE with rfl | rfl <;> exact eq_false (by decide)
    clear hE HCa
    go_upto_region 12 with (go_at_call 11; refine (Lw.num_same _ _).mono ?_; rintro e u2 ⟨rfl, rfl⟩)
    clear hct
    have hSd := HSy.out.drew
    have HBd : Hid (Below w.heap.size w u2.drew) := HB.out.drew
    clear HSy HB
    refine wp_region_any (by kernel_rfl) ?_
    change wpAny _ _ _ _ _ _ _ u2.drew
    generalize u2.drew = ve at hSd HBd ⊢
    refine Lw.take_to (i := 0) (some 87) (.int .i64 a0) rfl rfl (by kernel_rfl) (by kernel_rfl) (by kernel_rfl) (fun _ _ _ h => h) (Or.inl ⟨by rfl, fun w => by go_simp⟩) ?_
    refine Lw.take_to (i := 1) (some 88) (.string a1) rfl rfl (by kernel_rfl) (by kernel_rfl) (by kernel_rfl) (fun _ _ _ h => h) (Or.inl ⟨by rfl, fun w => by go_simp⟩) ?_
    refine Lw.take_to (i := 2) (some 89) (.string a2) rfl rfl (by kernel_rfl) (by kernel_rfl) (by kernel_rfl) (fun _ _ _ h => h) (Or.inl ⟨by rfl, fun w => by go_simp⟩) ?_
    refine Lw.take_to (i := 3) (some 90) (.string a3) rfl rfl (by kernel_rfl) (by kernel_rfl) (by kernel_rfl) (fun _ _ _ h => h) (Or.inl ⟨by rfl, fun w => by go_simp⟩) ?_
    refine Lw.take_to (i := 4) (some 91) (.slice (some ⟨gy, 0, none⟩) n C2) rfl rfl (by kernel_rfl) (by kernel_rfl) (by kernel_rfl) (fun _ _ _ h => h) (Or.inl ⟨by rfl, fun w => by go_simp⟩) ?_
    refine Lw.take_to (i := 5) (some 92) (.int .i64 (k : Int)) rfl rfl (by kernel_rfl) (by kernel_rfl) (by kernel_rfl) (fun _ _ _ h => h) (Or.inl ⟨by rfl, fun w => by go_simp⟩) ?_
    refine Lw.take_to (i := 6) (some 93) (.slice (some ⟨gy, 0, none⟩) k C2) rfl rfl (by kernel_rfl) (by kernel_rfl) (by kernel_rfl) (fun _ _ _ h => h) (Or.inl ⟨by rfl, fun w => by go_simp⟩) ?_
    refine Lw.take_to (i := 7) (some 94) (.slice (some ⟨gy, 0, none⟩) n C2) rfl rfl (by kernel_rfl) (by kernel_rfl) (by kernel_rfl) (fun _ _ _ h => h) (Or.inl ⟨by rfl, fun w => by go_simp⟩) ?_
    refine Lw.take_to (i := 8) (some 95) (.int .i64 (k : Int)) rfl rfl (by kernel_rfl) (by kernel_rfl) (by kernel_rfl) (fun _ _ _ h => h) (Or.inl ⟨by rfl, fun w => by go_simp⟩) ?_
    refine Lw.take_to (i := 9) (some 96) (.slice (if C2 = k then some ⟨gy, 0, none⟩ else some ⟨gy, k, none⟩) m (C2 - k)) rfl rfl (by kernel_rfl) (by kernel_rfl) (by kernel_rfl) (fun _ _ _ h => h) (Or.inl ⟨by rfl, fun w => by go_simp⟩) ?_
    simp only [Act.put, List.setIfInBounds_toArray, List.set_cons_zero, List.set_cons_succ]
    refine wpAny_ready (rs := [10]) (by kernel_rfl) (by simp) ?_
    refine Rt.ready_callTo (some 97) rfl rfl rfl 14 _ _ rfl (fun _ _ => by go_simp) #[.int .i64 a0, .string a1, .string a2, .string a3, .slice (some ⟨gy, 0, none⟩) k C2, .slice (if C2 = k then some ⟨gy, 0, none⟩ else some ⟨gy, k, none⟩) m (C2 - k)] (by kernel_rfl) ?_ AllReady.nil
    refine (HSI.out _ _ _ _ hSd HPf2.out).mono ?_
    rintro e u3 ⟨rfl, hbut, Y2, hY, hYt⟩
    refine ⟨_, rfl, ?_⟩
    simp only [Act.put, List.setIfInBounds_toArray, List.set_cons_zero, List.set_cons_succ]
    refine Lw.take_to (i := 11) (some 21) (.int .i64 F) rfl rfl (by kernel_rfl) (by kernel_rfl) (by kernel_rfl) (fun _ _ _ h => h) (Or.inl ⟨by rfl, fun w => by go_simp⟩) ?_
    simp only [Act.put, List.setIfInBounds_toArray, List.set_cons_zero, List.set_cons_succ]
    refine wpAny_done (by kernel_rfl) ?_ _
    generalize (if C2 = k then some (⟨gy, 0, none⟩ : Addr) else some ⟨gy, k, none⟩) = ppgy
    have HB : Hid (Below w.heap.size w u3) := hbut.below HBd.out (by rw [HGx.out]; exact Nat.le_of_lt HGy.out) HBd.out.size
    have HSy := Lib.hid hY
    have HUt := Lib.hid hYt
    clear hbut hY hYt HBd hSd HSI HPf2
    have AWB : Hid (∀ u, Below w.heap.size w u → Calls Tryz.prog 12 #[] u fun e w' => e = .returned (.bool true) ∧ Below w.heap.size w w') := fun u hu => (Ew.awake8_any u).mono fun _ _ ⟨h1, h2⟩ => ⟨h1, hu.trans (h2.mono hu.size)⟩
    by_cases h16 : n < 16
    · obtain ⟨hF, hU⟩ := HSh.out h16
      have l16 : ((n : Int) < 16) = True := eq_true (by omega)
      have hct := HSy.out.text C2
      rw [HUt.out, hU] at hct
      rw [hF]
      clear hF hU h16
      go_wp2_with (first | (go_at_call 11; refine (Lw.num_same _ _).mono ?_; rintro e u ⟨rfl, rfl⟩) | (go_at_call 12; refine (AWB.out _ HB.out).mono ?_; rintro e u4 ⟨rfl, hb⟩))
      go_ret
      exact ⟨rfl, hb⟩
    · have l16 : ((n : Int) < 16) = False := eq_false (by omega)
      have z1 : (n : Int) - 16 ≤ (n : Int) := by omega
      have z2 : (16 : Int) ≤ (n : Int) := by omega
      obtain ⟨j, hj⟩ : ∃ j, n - 16 = j := ⟨_, rfl⟩
      have hlo := HLo.out (by omega)
      rw [hj] at HRs
      have z3 : (n : Int) - 16 = (j : Int) := by omega
      have z4 : (j : Int) ≤ (n : Int) := by omega
      clear h16 HLo hj
      go_wp2_with (go_at_call 8; fail)
      refine (HRs.out _).mono ?_
      rintro e u5 ⟨rfl, hb⟩
      have HB : Hid (Below w.heap.size w u5) := HB.out.trans (hb.mono HB.out.size)
      have hct := (HSy.out.on hb).text C2
      rw [HUt.out] at hct
      clear hb HRs
      rcases hlo with ⟨rfl, rfl, hU⟩ | ⟨rfl, rfl, hU⟩
      · rw [hU] at hct
        go_wp2_with (first | (go_at_call 11; refine (Lw.num_same _ _).mono ?_; rintro e u ⟨rfl, rfl⟩) | (go_at_call 12; refine (AWB.out _ HB.out).mono ?_; rintro e u4 ⟨rfl, hb⟩))
        go_ret
        exact ⟨rfl, hb⟩
      · rw [hU] at hct
        go_wp2_with (first | (go_at_call 11; refine (Lw.num_same _ _).mono ?_; rintro e u ⟨rfl, rfl⟩) | (go_at_call 12; refine (AWB.out _ HB.out).mono ?_; rintro e u4 ⟨rfl, hb⟩))
        go_ret
        exact ⟨rfl, hb⟩

set_option maxRecDepth 100000 in
theorem lifted (os : Os) (started : os.Started) (H : Type) (enc : TypeId × Value → H) :
    ReturnsInHanded {} Tryz.checked os 4 .any (Rows.aeadPlacesSpec.pre6 enc Tryz.prog Tryz.f4 Rows.aeadPlacesRow.domain false) (Rows.aeadPlacesSpec.post enc Tryz.prog Tryz.f4 false true false false) := by
  refine returnsInHanded_of_change (C := Tryz.checked) own started (by kernel_rfl) Tryz.func4
    (ChangeSpec.witness6 (enc := enc) (C := Tryz.checked) false ⟨#[], #[.int .i64 0, .string ByteArray.empty, .string ByteArray.empty, .string ByteArray.empty, .string ByteArray.empty, .int .i64 0], []⟩ 8 (by kernel_rfl) (by kernel_rfl) (by kernel_rfl) (by kernel_rfl)) ?_
  intro W base args ds gs before hval0 hW hcnd _
  have hval : ∀ (j : Nat) t v, Tryz.f4.params[j]? = some t → args[j]? = some v → Value.okWide Tryz.prog W .any base t v := hval0
  have hW' := hW
  obtain ⟨p, q, hA0, hV, rfl, hfz, hnd⟩ := hW
  have hA : DataW.TrodAll enc Tryz.prog W 0 (fun _ => true) true Tryz.f4.params.toList args.toList ds p := hA0
  rw [Tryz.params4] at hA hval
  obtain ⟨v0, vs0, d0, ds0, p0, q0, hargs, rfl, rfl, h0, r0⟩ := trodAll_cons hA
  obtain ⟨v1, vs1, d1, ds1, p1, q1, rfl, rfl, rfl, h1, r1⟩ := trodAll_cons r0
  obtain ⟨v2, vs2, d2, ds2, p2, q2, rfl, rfl, rfl, h2, r2⟩ := trodAll_cons r1
  obtain ⟨v3, vs3, d3, ds3, p3, q3, rfl, rfl, rfl, h3, r3⟩ := trodAll_cons r2
  obtain ⟨v4, vs4, d4, ds4, p4, q4, rfl, rfl, rfl, h4, r4⟩ := trodAll_cons r3
  obtain ⟨v5, vs5, d5, ds5, p5, q5, rfl, rfl, rfl, h5, r5⟩ := trodAll_cons r4
  obtain ⟨rfl, rfl, rfl⟩ := trodAll_nil r5
  obtain rfl : args = #[v0, v1, v2, v3, v4, v5] := by cases args; simp_all
  obtain ⟨rfl, rfl⟩ := trodVars_none hV
  obtain ⟨a0, rfl, rfl, rfl, w0⟩ := open_int Tryz.underlying3 (hval 0 3 v0 rfl rfl) h0
  obtain ⟨a1, rfl, rfl, rfl, w1⟩ := open_string Tryz.underlying9 (hval 1 9 v1 rfl rfl) h1
  obtain ⟨a2, rfl, rfl, rfl, w2⟩ := open_string Tryz.underlying9 (hval 2 9 v2 rfl rfl) h2
  obtain ⟨a3, rfl, rfl, rfl, w3⟩ := open_string Tryz.underlying9 (hval 3 9 v3 rfl rfl) h3
  obtain ⟨a4, rfl, rfl, rfl, w4⟩ := open_string Tryz.underlying9 (hval 4 9 v4 rfl rfl) h4
  obtain ⟨a5, rfl, rfl, rfl, w5⟩ := open_int Tryz.underlying3 (hval 5 3 v5 rfl rfl) h5
  clear hA0 hval0
  simp only [List.append_nil] at hW'
  refine (walk a0 a1 a2 a3 a4 a5 w0 w1 w2 w3 w4 w5 W).mono fun e W' ⟨he, bel⟩ => ?_
  subst he
  exact ⟨_, rfl, _, _, _, [], [], [], hW', trodAll_mk1 (shut_bool Tryz.underlying4 _), (trodAll_cons_mk (shut_int Tryz.underlying3 w0) (trodAll_cons_mk (shut_string Tryz.underlying9 w1) (trodAll_cons_mk (shut_string Tryz.underlying9 w2) (trodAll_cons_mk (shut_string Tryz.underlying9 w3) (trodAll_cons_mk (shut_string Tryz.underlying9 w4) (trodAll_cons_mk (shut_int Tryz.underlying3 w5) trodAll_mk0)))))), rfl, bel.frame _, fun h => by cases h⟩

theorem over : Rows.aeadPlacesRow.holds Tryz.pinned (OpenSpec.ofChange Rows.aeadPlacesSpec) :=
  OpenClaim.holds_of_wide 4 Tryz.f4 rfl rfl rfl rfl rfl rfl rfl ⟨rfl, rfl, rfl, rfl, rfl⟩ rfl rfl rfl rfl rfl (by kernel_rfl) Tryz.func4 (by kernel_rfl)
    (of_decide_eq_true (by kernel_rfl)) (by unfold Func.isWrapper; first | (rw [if_pos (by decide +kernel)]; kernel_rfl) | (rw [if_neg (by decide +kernel)]; exact ⟨rfl, rfl⟩))
    (fun os started H enc _ => lifted os started H enc)

theorem proved : Rows.AeadPlacesSaid :=
  over
#print axioms proved
end Go.Proofs.YtljhenjbjondkaaGreat.aeadPlaces
