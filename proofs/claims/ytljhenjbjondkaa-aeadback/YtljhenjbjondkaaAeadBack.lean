/-
  AeadBack (P8.2): at every input what was sealed in its place, wherever it is cut, is opened in its place, and the tag stays.
-/
import Derived.Test.YtljhenjbjondkaaJocb
import Derived.Test.YtljhenjbjondkaaRows
import Derived.WalkKit
import Derived.ProofKit
import Derived.OpenShut
import Derived.ShutString
import Derived.Below
import Derived.ChangeOld
namespace Go.Proofs.Ytljhenjbjondkaa.aeadBack
open Go.ChangeShapes Go.WideShapes Go.ChangeAt Go.RowKit
open Go.ChangeMaps (open_string shut_string)
set_option linter.unusedVariables false

theorem own : ownKnob Try.prog.godebug = none := by kernel_rfl

set_option maxHeartbeats 8000000 in
set_option maxRecDepth 100000 in
theorem walk (a0 : Int) (a1 : ByteArray) (a2 : ByteArray) (a3 : ByteArray) (a4 : Int) (_w0 : (Lit.int .i64 a0).wf = true) (_w1 : a1.size ≤ maxLen) (_w2 : a2.size ≤ maxLen) (_w3 : a3.size ≤ maxLen) (_w4 : (Lit.int .i64 a4).wf = true) (w : World) :
    Calls Try.prog 3 #[.int .i64 a0, .string a1, .string a2, .string a3, .int .i64 a4] w fun e w' => e = .returned (.bool true) ∧ Below w.heap.size w w' := by
  have HB : Hid (Below w.heap.size w w) := Below.refl _ _
  clear _w0 _w1 _w2 _w3 _w4
  by_cases hs : 3000 < a3.size
  · have e3 : ((3000 : Int) < (a3.size : Int)) = True := eq_true (by omega)
    clear hs
    go_enter Try.func3, Try.ntmps3
    go_wp2_with (first | (go_at_call 11; refine (Lw.num_same _ _).mono ?_; rintro e u ⟨rfl, rfl⟩) | (go_at_call 7; refine (Ew.awake8_any _).mono ?_; rintro e u ⟨rfl, hb⟩; have HB := Lib.hid (Lw.go_on HB.out hb); clear hb))
    go_ret
    exact ⟨rfl, HB.out⟩
  by_cases ha : 3000 < a2.size
  · have e3 : ((3000 : Int) < (a3.size : Int)) = False := eq_false (by omega)
    have e4 : ((3000 : Int) < (a2.size : Int)) = True := eq_true (by omega)
    clear hs ha
    go_enter Try.func3, Try.ntmps3
    go_wp2_with (first | (go_at_call 11; refine (Lw.num_same _ _).mono ?_; rintro e u ⟨rfl, rfl⟩) | (go_at_call 7; refine (Ew.awake8_any _).mono ?_; rintro e u ⟨rfl, hb⟩; have HB := Lib.hid (Lw.go_on HB.out hb); clear hb))
    go_ret
    exact ⟨rfl, HB.out⟩
  have e3 : ((3000 : Int) < (a3.size : Int)) = False := eq_false (by omega)
  have e4 : ((3000 : Int) < (a2.size : Int)) = False := eq_false (by omega)
  obtain ⟨q, z, kk, B, hq1, hq2, hq3, hz, hE, hK, hBb, hkk, _⟩ := Ew.suite_of a0
  obtain ⟨n, hn⟩ : ∃ n, a3.size = n := ⟨_, rfl⟩
  rw [hn] at e3 hs
  have HNs := Lib.hid hn
  have HN3 : Hid (n ≤ 3000) := by show n ≤ 3000; omega
  have HA : Hid (a2.size ≤ 3000) := by show a2.size ≤ 3000; omega
  have HKk : Hid (kk = 16 ∨ kk = 32) := hkk
  obtain ⟨nb, hnb⟩ : ∃ nb, kk + 12 = nb := ⟨_, rfl⟩
  have HNb := Lib.hid hnb
  obtain ⟨nx, hnx⟩ : ∃ nx, n + 16 = nx := ⟨_, rfl⟩
  have HNx := Lib.hid hnx
  have b1 : (kk : Int) + 12 = (nb : Int) := by omega
  have b2 : nb ≤ 44 := by omega
  have b3 : (nb : Int) ≤ 44 := by omega
  have b4 : (kk : Int) ≤ 32 := by omega
  have x1 : (n : Int) + 16 = (nx : Int) := by omega
  have x2 : (nx : Int) ≤ 3016 := by omega
  have x3 : (n : Int) ≤ 3000 := by omega
  have qw : (q : Int) ≤ 2 := by omega
  have qi : IntKind.i64.wrap (q : Int) = (q : Int) := IntWalk.i64_in _ (by omega)
  have HSz : Hid (∀ u, Calls Try.prog 8 #[.int .i64 z] u fun e w' => e = .returned (.tuple #[.int .i64 (kk : Int), .int .i64 B, .int .i64 0]) ∧ Below u.heap.size u w') := fun u => by
    have h := Ed.sizes_any z u
    rw [hE, hK, hBb] at h
    exact h
  obtain ⟨M, hM, hMc, hmk⟩ := Lw.zeros nb (by omega)
  have HM := Lib.hid hM
  have HMc := Lib.hid hMc
  have HE := Lib.hid hE
  have HKe := Lib.hid hK
  obtain ⟨M2, hM2, hMc2, hmk2⟩ := Lw.zeros nx (by omega)
  have HM2 := Lib.hid hM2
  have HMc2 := Lib.hid hMc2
  have HMk2 := Lib.hid hmk2
  clear hs ha hM hMc hE hK hBb hkk hnb hnx hM2 hMc2 hmk2 b2
  go_enter Try.func3, Try.ntmps3
  go_wp2_with (go_at_call 7; fail)
  refine (Ew.awake8_any _).mono ?_
  rintro e u ⟨rfl, hb⟩
  have HB := Lib.hid (Lw.go_on HB.out hb)
  clear hb
  go_wp2_with (go_at_call 8; fail)
  refine (HSz.out _).mono ?_
  rintro e u0 ⟨rfl, hb⟩
  have HB := Lib.hid (Lw.go_on HB.out hb)
  clear hb HSz
  go_wp2_with (fail)
  have HR : Hid (Lw.RowB (u0.alloc (.cells M 5)) u0.heap.size nb (fun _ => 0)) := Lw.rowB_new u0 M nb HM.out HMc.out
  have HG : Hid (w.heap.size ≤ u0.heap.size) := HB.out.size
  have HB : Hid (Below w.heap.size w (u0.alloc (.cells M 5))) := HB.out.alloc HG.out _
  clear hmk HM HMc e3 e4 hq1 hq2 qw qi
  generalize u0.heap.size = gb at HR HG ⊢
  generalize u0.alloc (.cells M 5) = w1 at HR HB ⊢
  go_loopw [16] (fun v wx => ∃ (j : Nat) (X : Nat → Nat), Hid (j ≤ nb) ∧ v = .int .i64 j ∧ Hid (Lw.RowB wx gb nb X) ∧ Hid (Below w.heap.size w wx)) (fun v _ => nb - (intOf v).toNat)
  case atStart => exact ⟨0, fun _ => 0, Nat.zero_le _, rfl, HR, HB⟩
  case round =>
    clear HR HB
    obtain ⟨j, X, hj, rfl, HR, HB⟩ := hrel
    by_cases hlt : j < nb ∧ j < a1.size
    · have jl : ((j : Int) < (nb : Int)) = True := eq_true (by omega)
      have jl' : (j : Int) < (nb : Int) := by omega
      have js : ((j : Int) < (a1.size : Int)) = True := eq_true (by omega)
      have js' : (j : Int) < (a1.size : Int) := by omega
      have jn : j < a1.size := hlt.2
      have xc := World.rowIs.cell HR.out (i := j) hlt.1
      have xf := World.rowIs.frozen HR.out j
      have v0 : ∀ h : j < a1.size, (a1[j]'h).toNat = Aes.byt a1 j := fun h => Aes.get_byt a1 _ h
      have HJ := Lib.hid hlt.1
      clear hlt
      go_wp2_with (fail)
      exact ⟨⟨j + 1, _, HJ.out, by go_num, HR.out.set j (Aes.byt a1 j), HB.out.setCell HG.out _⟩, Lw.meas nb j HJ.out⟩
    · have hc1 := Lib.hid fun y => (HR.out.drewN y).text 0 kk nb (by have := HNb.out; omega)
      have hc2 := Lib.hid fun y => (HR.out.drewN y).text kk 12 12 (by have := HNb.out; omega)
      have HKs : Hid ((Lw.pieceS X 0 kk).size = kk) := Lw.pieceS_size _ _ _
      have HN : Hid ((Lw.pieceS X kk 12).size = 12) := Lw.pieceS_size _ _ _
      generalize Lw.pieceS X 0 kk = K at hc1 HKs
      generalize Lw.pieceS X kk 12 = N at hc2 HN
      have HOk : Hid (Ad.s8Ok z K N a2 a3 = true) := (Ad.s8_iff z K N a2 a3).2 ⟨⟨⟨HE.out, by rw [HKe.out, HKs.out]⟩, HN.out, by have := HA.out; omega⟩, by have := HN3.out; have := HNs.out; omega⟩
      by_cases hl : j < nb
      · have jl : ((j : Int) < (nb : Int)) = True := eq_true (by omega)
        have js : ((j : Int) < (a1.size : Int)) = False := eq_false (by omega)
        clear hlt hl
        have kb1 : (kk : Int) ≤ (nb : Int) := by omega
        have kb2 : (nb : Int) - (kk : Int) = 12 := by omega
        have kb3 : (nb = kk) = False := eq_false (by have := HNb.out; omega)
        go_upto_region 12 with (fail)
        clear jl js
        have c1 := hc1.out
        have c2 := hc2.out
        have kb4 : nb - kk = 12 := by have := HNb.out; omega
        go_quiet (fail)
        have HB := Lib.hid (Lw.below_drewN HB.out nq)
        clear c1 c2 hc1 hc2 HR kb1 kb2 kb3 kb4
        generalize wr.drewN nq = w2 at HB ⊢
        have hmk2 := HMk2.out
        obtain ⟨p, hp, hq1, hq2⟩ := Ew.cut_of a4 nx
        obtain ⟨w3, hcp, hbc, hsg⟩ := Ew.copy_new w2 M2 a3 n nx HM2.out HMc2.out HNs.out (by have := HNx.out; omega)
        have HSg := Lib.hid hsg
        have HP := Lib.hid hp
        have HBc := Lib.hid hbc
        have HG2 : Hid (w.heap.size ≤ w2.heap.size) := HB.out.size
        have hd : nx + 1 < 3018 := by omega
        have hw : IntKind.u64.wrap ((nx : Int) + 1) = (nx : Int) + 1 := by show _ % 18446744073709551616 = _; omega
        have hpl : (p : Int) ≤ 3016 := by omega
        have hpi : IntKind.i64.wrap (p : Int) = (p : Int) := IntWalk.i64_in _ (by omega)
        clear hp hbc hsg
        go_upto_region 16 with (fail)
        clear hmk2 hcp hq1 hq2 hd hw hpi HMk2 HM2 HMc2
        have HB : Hid (Below w.heap.size w w3) := Lw.go_on HB.out HBc.out
        have HTx : Hid (Lw.pieceS (fun i => if i < n then Aes.byt a3 i else 0) 0 nx = a3 ++ Pol.zS 16) := by show _ = _; rw [← HNx.out]; exact Ew.new_text a3 n HNs.out
        generalize (fun i => if i < n then Aes.byt a3 i else 0) = Xx at HSg HTx
        clear HBc
        generalize w2.heap.size = g at HSg HG2 ⊢
        obtain ⟨m, hm⟩ : ∃ m, nx - p = m := ⟨_, rfl⟩
        have HPm : Hid (p + m = nx) := by show p + m = nx; have := HP.out; omega
        have d3 : (p : Int) ≤ (nx : Int) := by have := HP.out; omega
        have d6 : (nx : Int) - (p : Int) = (m : Int) := by have := HP.out; omega
        have HPf : Hid (p ≤ nx ∧ m ≤ nx - p ∧ (m = 0 ∨ (if nx = p then some (⟨g, 0, none⟩ : Addr) else some ⟨g, p, none⟩) = some ⟨g, p, none⟩)) := by
          refine (show _ ∧ _ ∧ (_ ∨ _) from ⟨by have := HPm.out; omega, by have := HPm.out; omega, ?_⟩)
          by_cases hc : nx = p
          · exact .inl (by have := HPm.out; omega)
          · exact .inr (if_neg hc)
        have hin := Ew.in_new z K N a2 a3 HOk.out
        have hbk := Ew.back8 z K N a2 a3 HOk.out
        have hst := Ad.s8T_size z K N a2 a3
        have HSI : Hid (∀ (u : World) (p2 : Option Addr) (c1 c2 : Nat), Ew.Seg u g 0 nx Xx → (p ≤ c1 ∧ m ≤ c2 ∧ (m = 0 ∨ p2 = some ⟨g, p, none⟩)) → Calls Try.prog 9 #[.int .i64 z, .string K, .string N, .string a2, .slice (some ⟨g, 0, none⟩) p c1, .slice p2 m c2] u fun e w' =>
            e = .returned (.int .i64 0) ∧ Pd.But g u w' ∧ ∃ Y, Ew.Seg w' g 0 nx Y ∧ Lw.pieceS Y 0 nx = Ad.s8T z K N a2 a3) := fun u p2 c1 c2 hs hp => by
          have h := Ed.sealIn_any z K N a2 g 0 p m nx c1 c2 (some ⟨g, 0, none⟩) p2 Xx u hs (.inr rfl) (by rw [Nat.zero_add]; exact hp.2.2) HPm.out (by have := HNx.out; have := HN3.out; omega) hp.1 hp.2.1
          rw [HTx.out, hin.1, hin.2.1] at h
          exact h
        have HSe : Hid (∀ u, Calls Try.prog 10 #[.int .i64 z, .string K, .string N, .string a2, .string a3] u fun e w' => e = .returned (.tuple #[.string (Ad.s8T z K N a2 a3), .int .i64 0]) ∧ Below u.heap.size u w') := fun u => by
          have h := Ed.seal_any z K N a2 a3 u
          rw [hin.2.2.1, hin.2.2.2] at h
          exact h
        have HOI : Hid (∀ (u : World) (p2 : Option Addr) (c1 c2 : Nat) (Y : Nat → Nat), Ew.Seg u g 0 nx Y → Lw.pieceS Y 0 nx = Ad.s8T z K N a2 a3 → (p ≤ c1 ∧ m ≤ c2 ∧ (m = 0 ∨ p2 = some ⟨g, p, none⟩)) → Calls Try.prog 12 #[.int .i64 z, .string K, .string N, .string a2, .slice (some ⟨g, 0, none⟩) p c1, .slice p2 m c2] u fun e w' =>
            e = .returned (.tuple #[.int .i64 (n : Nat), .int .i64 0]) ∧ Pd.But g u w' ∧ ∃ Y, Ew.Seg w' g 0 nx Y ∧ Lw.pieceS Y 0 nx = a3 ++ (Ad.s8T z K N a2 a3).extract n nx) := fun u p2 c1 c2 Y hs hy hp => by
          have h := Ed.openIn_any z K N a2 g 0 p m nx c1 c2 (some ⟨g, 0, none⟩) p2 Y u hs (.inr rfl) (by rw [Nat.zero_add]; exact hp.2.2) HPm.out (by have := HNx.out; have := HN3.out; omega) hp.1 hp.2.1
          rw [hy, hbk.1, hbk.2.1, hbk.2.2, HNs.out, HNx.out] at h
          exact h
        have HZt : Hid ((Ad.s8T z K N a2 a3).size = nx) := by show _ = nx; rw [hst, HNs.out, HNx.out]
        generalize Ad.s8T z K N a2 a3 = T at HSI HSe HOI HZt
        obtain ⟨V, hV⟩ : ∃ V, a3 ++ T.extract n nx = V := ⟨_, rfl⟩
        rw [hV] at HOI
        have HVe := Lib.hid hV
        clear hin hbk hst hV
        have hSd := HSg.out.drew
        have HBd : Hid (Below w.heap.size w w3.drew) := HB.out.drew
        clear HB HSg
        refine wp_region_any (by kernel_rfl) ?_
        change wpAny _ _ _ _ _ _ _ w3.drew
        generalize w3.drew = vd at hSd HBd ⊢
        refine Lw.take_to (i := 0) (some 91) (.int .i64 z) rfl rfl (by kernel_rfl) (by kernel_rfl) (by kernel_rfl) (fun _ _ _ h => h) (Or.inl ⟨by rfl, fun w => by go_simp⟩) ?_
        refine Lw.take_to (i := 1) (some 92) (.string K) rfl rfl (by kernel_rfl) (by kernel_rfl) (by kernel_rfl) (fun _ _ _ h => h) (Or.inl ⟨by rfl, fun w => by go_simp⟩) ?_
        refine Lw.take_to (i := 2) (some 93) (.string N) rfl rfl (by kernel_rfl) (by kernel_rfl) (by kernel_rfl) (fun _ _ _ h => h) (Or.inl ⟨by rfl, fun w => by go_simp⟩) ?_
        refine Lw.take_to (i := 3) (some 94) (.string a2) rfl rfl (by kernel_rfl) (by kernel_rfl) (by kernel_rfl) (fun _ _ _ h => h) (Or.inl ⟨by rfl, fun w => by go_simp⟩) ?_
        refine Lw.take_to (i := 4) (some 95) (.slice (some ⟨g, 0, none⟩) nx nx) rfl rfl (by kernel_rfl) (by kernel_rfl) (by kernel_rfl) (fun _ _ _ h => h) (Or.inl ⟨by rfl, fun w => by go_simp⟩) ?_
        refine Lw.take_to (i := 5) (some 96) (.int .i64 (p : Int)) rfl rfl (by kernel_rfl) (by kernel_rfl) (by kernel_rfl) (fun _ _ _ h => h) (Or.inl ⟨by rfl, fun w => by go_simp⟩) ?_
        refine Lw.take_to (i := 6) (some 97) (.slice (some ⟨g, 0, none⟩) p nx) rfl rfl (by kernel_rfl) (by kernel_rfl) (by kernel_rfl) (fun _ _ _ h => h) (Or.inl ⟨by rfl, fun w => by go_simp⟩) ?_
        refine Lw.take_to (i := 7) (some 98) (.slice (some ⟨g, 0, none⟩) nx nx) rfl rfl (by kernel_rfl) (by kernel_rfl) (by kernel_rfl) (fun _ _ _ h => h) (Or.inl ⟨by rfl, fun w => by go_simp⟩) ?_
        refine Lw.take_to (i := 8) (some 99) (.int .i64 (p : Int)) rfl rfl (by kernel_rfl) (by kernel_rfl) (by kernel_rfl) (fun _ _ _ h => h) (Or.inl ⟨by rfl, fun w => by go_simp⟩) ?_
        refine Lw.take_to (i := 9) (some 100) (.slice (if nx = p then some ⟨g, 0, none⟩ else some ⟨g, p, none⟩) m (nx - p)) rfl rfl (by kernel_rfl) (by kernel_rfl) (by kernel_rfl) (fun _ _ _ h => h) (Or.inl ⟨by rfl, fun w => by go_simp⟩) ?_
        simp only [Act.put, List.setIfInBounds_toArray, List.set_cons_zero, List.set_cons_succ]
        refine wpAny_ready (rs := [10]) (by kernel_rfl) (by simp) ?_
        refine Rt.ready_callTo (some 101) rfl rfl rfl 9 _ _ rfl (fun _ _ => by go_simp) #[.int .i64 z, .string K, .string N, .string a2, .slice (some ⟨g, 0, none⟩) p nx, .slice (if nx = p then some ⟨g, 0, none⟩ else some ⟨g, p, none⟩) m (nx - p)] (by kernel_rfl) ?_ AllReady.nil
        refine (HSI.out _ _ _ _ hSd HPf.out).mono ?_
        rintro e u1 ⟨rfl, hbut, Y, hY, hYt⟩
        refine ⟨_, rfl, ?_⟩
        simp only [Act.put, List.setIfInBounds_toArray, List.set_cons_zero, List.set_cons_succ]
        refine Lw.take_to (i := 11) (some 21) (.int .i64 0) rfl rfl (by kernel_rfl) (by kernel_rfl) (by kernel_rfl) (fun _ _ _ h => h) (Or.inl ⟨by rfl, fun w => by go_simp⟩) ?_
        simp only [Act.put, List.setIfInBounds_toArray, List.set_cons_zero, List.set_cons_succ]
        refine wpAny_done (by kernel_rfl) ?_ _
        generalize (if nx = p then some (⟨g, 0, none⟩ : Addr) else some ⟨g, p, none⟩) = ppvd
        have HB : Hid (Below w.heap.size w u1) := hbut.below HBd.out HG2.out HBd.out.size
        have HSx := Lib.hid hY
        have HVt := Lib.hid hYt
        clear hbut hY hYt HBd hSd HSI
        go_wp2_with (go_at_call 10; fail)
        refine (HSe.out _).mono ?_
        rintro e u2 ⟨rfl, hb⟩
        have HSx := Lib.hid (HSx.out.on hb)
        have HB : Hid (Below w.heap.size w u2) := Lw.go_on HB.out hb
        have hct := HSx.out.text nx
        rw [HVt.out] at hct
        clear hb HSe
        go_upto_region 20 with (go_at_call 11; refine (Lw.num_same _ _).mono ?_; rintro e u2 ⟨rfl, rfl⟩)
        clear hct
        have hSd := HSx.out.drew
        have HBd : Hid (Below w.heap.size w u2.drew) := HB.out.drew
        clear HB HSx
        refine wp_region_any (by kernel_rfl) ?_
        change wpAny _ _ _ _ _ _ _ u2.drew
        generalize u2.drew = ve at hSd HBd ⊢
        refine Lw.take_to (i := 0) (some 131) (.int .i64 z) rfl rfl (by kernel_rfl) (by kernel_rfl) (by kernel_rfl) (fun _ _ _ h => h) (Or.inl ⟨by rfl, fun w => by go_simp⟩) ?_
        refine Lw.take_to (i := 1) (some 132) (.string K) rfl rfl (by kernel_rfl) (by kernel_rfl) (by kernel_rfl) (fun _ _ _ h => h) (Or.inl ⟨by rfl, fun w => by go_simp⟩) ?_
        refine Lw.take_to (i := 2) (some 133) (.string N) rfl rfl (by kernel_rfl) (by kernel_rfl) (by kernel_rfl) (fun _ _ _ h => h) (Or.inl ⟨by rfl, fun w => by go_simp⟩) ?_
        refine Lw.take_to (i := 3) (some 134) (.string a2) rfl rfl (by kernel_rfl) (by kernel_rfl) (by kernel_rfl) (fun _ _ _ h => h) (Or.inl ⟨by rfl, fun w => by go_simp⟩) ?_
        refine Lw.take_to (i := 4) (some 135) (.slice (some ⟨g, 0, none⟩) nx nx) rfl rfl (by kernel_rfl) (by kernel_rfl) (by kernel_rfl) (fun _ _ _ h => h) (Or.inl ⟨by rfl, fun w => by go_simp⟩) ?_
        refine Lw.take_to (i := 5) (some 136) (.int .i64 (p : Int)) rfl rfl (by kernel_rfl) (by kernel_rfl) (by kernel_rfl) (fun _ _ _ h => h) (Or.inl ⟨by rfl, fun w => by go_simp⟩) ?_
        refine Lw.take_to (i := 6) (some 137) (.slice (some ⟨g, 0, none⟩) p nx) rfl rfl (by kernel_rfl) (by kernel_rfl) (by kernel_rfl) (fun _ _ _ h => h) (Or.inl ⟨by rfl, fun w => by go_simp⟩) ?_
        refine Lw.take_to (i := 7) (some 138) (.slice (some ⟨g, 0, none⟩) nx nx) rfl rfl (by kernel_rfl) (by kernel_rfl) (by kernel_rfl) (fun _ _ _ h => h) (Or.inl ⟨by rfl, fun w => by go_simp⟩) ?_
        refine Lw.take_to (i := 8) (some 139) (.int .i64 (p : Int)) rfl rfl (by kernel_rfl) (by kernel_rfl) (by kernel_rfl) (fun _ _ _ h => h) (Or.inl ⟨by rfl, fun w => by go_simp⟩) ?_
        refine Lw.take_to (i := 9) (some 140) (.slice (if nx = p then some ⟨g, 0, none⟩ else some ⟨g, p, none⟩) m (nx - p)) rfl rfl (by kernel_rfl) (by kernel_rfl) (by kernel_rfl) (fun _ _ _ h => h) (Or.inl ⟨by rfl, fun w => by go_simp⟩) ?_
        simp only [Act.put, List.setIfInBounds_toArray, List.set_cons_zero, List.set_cons_succ]
        refine wpAny_ready (rs := [10]) (by kernel_rfl) (by simp) ?_
        refine Rt.ready_callTo (some 141) rfl rfl rfl 12 _ _ rfl (fun _ _ => by go_simp) #[.int .i64 z, .string K, .string N, .string a2, .slice (some ⟨g, 0, none⟩) p nx, .slice (if nx = p then some ⟨g, 0, none⟩ else some ⟨g, p, none⟩) m (nx - p)] (by kernel_rfl) ?_ AllReady.nil
        refine (HOI.out _ _ _ _ _ hSd HVt.out HPf.out).mono ?_
        rintro e u3 ⟨rfl, hbut, Y2, hY, hYt⟩
        refine ⟨_, rfl, ?_⟩
        simp only [Act.put, List.setIfInBounds_toArray, List.set_cons_zero, List.set_cons_succ]
        refine Lw.take_to (i := 11) (some 130) (.tuple #[.int .i64 (n : Nat), .int .i64 0]) rfl rfl (by kernel_rfl) (by kernel_rfl) (by kernel_rfl) (fun _ _ _ h => h) (Or.inl ⟨by rfl, fun w => by go_simp⟩) ?_
        refine Lw.take_to (i := 12) (some 142) (.int .i64 (n : Nat)) rfl rfl (by kernel_rfl) (by kernel_rfl) (by kernel_rfl) (fun _ _ _ h => h) (Or.inl ⟨by rfl, fun w => by go_simp⟩) ?_
        refine Lw.take_to (i := 13) (some 143) (.int .i64 0) rfl rfl (by kernel_rfl) (by kernel_rfl) (by kernel_rfl) (fun _ _ _ h => h) (Or.inl ⟨by rfl, fun w => by go_simp⟩) ?_
        refine Lw.take_to (i := 14) (some 24) (.int .i64 (n : Nat)) rfl rfl (by kernel_rfl) (by kernel_rfl) (by kernel_rfl) (fun _ _ _ h => h) (Or.inl ⟨by rfl, fun w => by go_simp⟩) ?_
        refine Lw.take_to (i := 15) (some 25) (.int .i64 0) rfl rfl (by kernel_rfl) (by kernel_rfl) (by kernel_rfl) (fun _ _ _ h => h) (Or.inl ⟨by rfl, fun w => by go_simp⟩) ?_
        simp only [Act.put, List.setIfInBounds_toArray, List.set_cons_zero, List.set_cons_succ]
        refine wpAny_done (by kernel_rfl) ?_ _
        generalize (if nx = p then some (⟨g, 0, none⟩ : Addr) else some ⟨g, p, none⟩) = ppve
        have HB : Hid (Below w.heap.size w u3) := hbut.below HBd.out HG2.out HBd.out.size
        have hY' := Lib.hid fun y => ((hY.on (Lw.below_drewN (Below.refl u3.heap.size u3) y)).text nx)
        rw [hYt] at hY'
        clear hbut hY hYt HBd hSd HOI HPf HVt
        go_upto_region 21 with (fail)
        have hct := hY'.out
        have hn := HNs.out
        have zt := HZt.out
        have hve := HVe.out
        have nn : (n : Int) ≤ (nx : Int) := by omega
        have qq : ¬ 9223372036854775807 < n + (nx - n) := by have := HNx.out; have := HN3.out; omega
        go_quiet (first | (go_at_call 11; refine Calls.quiet_of_same (Lw.num_same _ _)))
        clear hct hY'
        go_wp2_with (fail)
        go_ret
        exact ⟨rfl, Lw.below_drewN HB.out nq⟩
      · have jl : ((j : Int) < (nb : Int)) = False := eq_false (by omega)
        clear hlt hl
        have kb1 : (kk : Int) ≤ (nb : Int) := by omega
        have kb2 : (nb : Int) - (kk : Int) = 12 := by omega
        have kb3 : (nb = kk) = False := eq_false (by have := HNb.out; omega)
        go_upto_region 12 with (fail)
        clear jl
        have c1 := hc1.out
        have c2 := hc2.out
        have kb4 : nb - kk = 12 := by have := HNb.out; omega
        go_quiet (fail)
        have HB := Lib.hid (Lw.below_drewN HB.out nq)
        clear c1 c2 hc1 hc2 HR kb1 kb2 kb3 kb4
        generalize wr.drewN nq = w2 at HB ⊢
        have hmk2 := HMk2.out
        obtain ⟨p, hp, hq1, hq2⟩ := Ew.cut_of a4 nx
        obtain ⟨w3, hcp, hbc, hsg⟩ := Ew.copy_new w2 M2 a3 n nx HM2.out HMc2.out HNs.out (by have := HNx.out; omega)
        have HSg := Lib.hid hsg
        have HP := Lib.hid hp
        have HBc := Lib.hid hbc
        have HG2 : Hid (w.heap.size ≤ w2.heap.size) := HB.out.size
        have hd : nx + 1 < 3018 := by omega
        have hw : IntKind.u64.wrap ((nx : Int) + 1) = (nx : Int) + 1 := by show _ % 18446744073709551616 = _; omega
        have hpl : (p : Int) ≤ 3016 := by omega
        have hpi : IntKind.i64.wrap (p : Int) = (p : Int) := IntWalk.i64_in _ (by omega)
        clear hp hbc hsg
        go_upto_region 16 with (fail)
        clear hmk2 hcp hq1 hq2 hd hw hpi HMk2 HM2 HMc2
        have HB : Hid (Below w.heap.size w w3) := Lw.go_on HB.out HBc.out
        have HTx : Hid (Lw.pieceS (fun i => if i < n then Aes.byt a3 i else 0) 0 nx = a3 ++ Pol.zS 16) := by show _ = _; rw [← HNx.out]; exact Ew.new_text a3 n HNs.out
        generalize (fun i => if i < n then Aes.byt a3 i else 0) = Xx at HSg HTx
        clear HBc
        generalize w2.heap.size = g at HSg HG2 ⊢
        obtain ⟨m, hm⟩ : ∃ m, nx - p = m := ⟨_, rfl⟩
        have HPm : Hid (p + m = nx) := by show p + m = nx; have := HP.out; omega
        have d3 : (p : Int) ≤ (nx : Int) := by have := HP.out; omega
        have d6 : (nx : Int) - (p : Int) = (m : Int) := by have := HP.out; omega
        have HPf : Hid (p ≤ nx ∧ m ≤ nx - p ∧ (m = 0 ∨ (if nx = p then some (⟨g, 0, none⟩ : Addr) else some ⟨g, p, none⟩) = some ⟨g, p, none⟩)) := by
          refine (show _ ∧ _ ∧ (_ ∨ _) from ⟨by have := HPm.out; omega, by have := HPm.out; omega, ?_⟩)
          by_cases hc : nx = p
          · exact .inl (by have := HPm.out; omega)
          · exact .inr (if_neg hc)
        have hin := Ew.in_new z K N a2 a3 HOk.out
        have hbk := Ew.back8 z K N a2 a3 HOk.out
        have hst := Ad.s8T_size z K N a2 a3
        have HSI : Hid (∀ (u : World) (p2 : Option Addr) (c1 c2 : Nat), Ew.Seg u g 0 nx Xx → (p ≤ c1 ∧ m ≤ c2 ∧ (m = 0 ∨ p2 = some ⟨g, p, none⟩)) → Calls Try.prog 9 #[.int .i64 z, .string K, .string N, .string a2, .slice (some ⟨g, 0, none⟩) p c1, .slice p2 m c2] u fun e w' =>
            e = .returned (.int .i64 0) ∧ Pd.But g u w' ∧ ∃ Y, Ew.Seg w' g 0 nx Y ∧ Lw.pieceS Y 0 nx = Ad.s8T z K N a2 a3) := fun u p2 c1 c2 hs hp => by
          have h := Ed.sealIn_any z K N a2 g 0 p m nx c1 c2 (some ⟨g, 0, none⟩) p2 Xx u hs (.inr rfl) (by rw [Nat.zero_add]; exact hp.2.2) HPm.out (by have := HNx.out; have := HN3.out; omega) hp.1 hp.2.1
          rw [HTx.out, hin.1, hin.2.1] at h
          exact h
        have HSe : Hid (∀ u, Calls Try.prog 10 #[.int .i64 z, .string K, .string N, .string a2, .string a3] u fun e w' => e = .returned (.tuple #[.string (Ad.s8T z K N a2 a3), .int .i64 0]) ∧ Below u.heap.size u w') := fun u => by
          have h := Ed.seal_any z K N a2 a3 u
          rw [hin.2.2.1, hin.2.2.2] at h
          exact h
        have HOI : Hid (∀ (u : World) (p2 : Option Addr) (c1 c2 : Nat) (Y : Nat → Nat), Ew.Seg u g 0 nx Y → Lw.pieceS Y 0 nx = Ad.s8T z K N a2 a3 → (p ≤ c1 ∧ m ≤ c2 ∧ (m = 0 ∨ p2 = some ⟨g, p, none⟩)) → Calls Try.prog 12 #[.int .i64 z, .string K, .string N, .string a2, .slice (some ⟨g, 0, none⟩) p c1, .slice p2 m c2] u fun e w' =>
            e = .returned (.tuple #[.int .i64 (n : Nat), .int .i64 0]) ∧ Pd.But g u w' ∧ ∃ Y, Ew.Seg w' g 0 nx Y ∧ Lw.pieceS Y 0 nx = a3 ++ (Ad.s8T z K N a2 a3).extract n nx) := fun u p2 c1 c2 Y hs hy hp => by
          have h := Ed.openIn_any z K N a2 g 0 p m nx c1 c2 (some ⟨g, 0, none⟩) p2 Y u hs (.inr rfl) (by rw [Nat.zero_add]; exact hp.2.2) HPm.out (by have := HNx.out; have := HN3.out; omega) hp.1 hp.2.1
          rw [hy, hbk.1, hbk.2.1, hbk.2.2, HNs.out, HNx.out] at h
          exact h
        have HZt : Hid ((Ad.s8T z K N a2 a3).size = nx) := by show _ = nx; rw [hst, HNs.out, HNx.out]
        generalize Ad.s8T z K N a2 a3 = T at HSI HSe HOI HZt
        obtain ⟨V, hV⟩ : ∃ V, a3 ++ T.extract n nx = V := ⟨_, rfl⟩
        rw [hV] at HOI
        have HVe := Lib.hid hV
        clear hin hbk hst hV
        have hSd := HSg.out.drew
        have HBd : Hid (Below w.heap.size w w3.drew) := HB.out.drew
        clear HB HSg
        refine wp_region_any (by kernel_rfl) ?_
        change wpAny _ _ _ _ _ _ _ w3.drew
        generalize w3.drew = vd at hSd HBd ⊢
        refine Lw.take_to (i := 0) (some 91) (.int .i64 z) rfl rfl (by kernel_rfl) (by kernel_rfl) (by kernel_rfl) (fun _ _ _ h => h) (Or.inl ⟨by rfl, fun w => by go_simp⟩) ?_
        refine Lw.take_to (i := 1) (some 92) (.string K) rfl rfl (by kernel_rfl) (by kernel_rfl) (by kernel_rfl) (fun _ _ _ h => h) (Or.inl ⟨by rfl, fun w => by go_simp⟩) ?_
        refine Lw.take_to (i := 2) (some 93) (.string N) rfl rfl (by kernel_rfl) (by kernel_rfl) (by kernel_rfl) (fun _ _ _ h => h) (Or.inl ⟨by rfl, fun w => by go_simp⟩) ?_
        refine Lw.take_to (i := 3) (some 94) (.string a2) rfl rfl (by kernel_rfl) (by kernel_rfl) (by kernel_rfl) (fun _ _ _ h => h) (Or.inl ⟨by rfl, fun w => by go_simp⟩) ?_
        refine Lw.take_to (i := 4) (some 95) (.slice (some ⟨g, 0, none⟩) nx nx) rfl rfl (by kernel_rfl) (by kernel_rfl) (by kernel_rfl) (fun _ _ _ h => h) (Or.inl ⟨by rfl, fun w => by go_simp⟩) ?_
        refine Lw.take_to (i := 5) (some 96) (.int .i64 (p : Int)) rfl rfl (by kernel_rfl) (by kernel_rfl) (by kernel_rfl) (fun _ _ _ h => h) (Or.inl ⟨by rfl, fun w => by go_simp⟩) ?_
        refine Lw.take_to (i := 6) (some 97) (.slice (some ⟨g, 0, none⟩) p nx) rfl rfl (by kernel_rfl) (by kernel_rfl) (by kernel_rfl) (fun _ _ _ h => h) (Or.inl ⟨by rfl, fun w => by go_simp⟩) ?_
        refine Lw.take_to (i := 7) (some 98) (.slice (some ⟨g, 0, none⟩) nx nx) rfl rfl (by kernel_rfl) (by kernel_rfl) (by kernel_rfl) (fun _ _ _ h => h) (Or.inl ⟨by rfl, fun w => by go_simp⟩) ?_
        refine Lw.take_to (i := 8) (some 99) (.int .i64 (p : Int)) rfl rfl (by kernel_rfl) (by kernel_rfl) (by kernel_rfl) (fun _ _ _ h => h) (Or.inl ⟨by rfl, fun w => by go_simp⟩) ?_
        refine Lw.take_to (i := 9) (some 100) (.slice (if nx = p then some ⟨g, 0, none⟩ else some ⟨g, p, none⟩) m (nx - p)) rfl rfl (by kernel_rfl) (by kernel_rfl) (by kernel_rfl) (fun _ _ _ h => h) (Or.inl ⟨by rfl, fun w => by go_simp⟩) ?_
        simp only [Act.put, List.setIfInBounds_toArray, List.set_cons_zero, List.set_cons_succ]
        refine wpAny_ready (rs := [10]) (by kernel_rfl) (by simp) ?_
        refine Rt.ready_callTo (some 101) rfl rfl rfl 9 _ _ rfl (fun _ _ => by go_simp) #[.int .i64 z, .string K, .string N, .string a2, .slice (some ⟨g, 0, none⟩) p nx, .slice (if nx = p then some ⟨g, 0, none⟩ else some ⟨g, p, none⟩) m (nx - p)] (by kernel_rfl) ?_ AllReady.nil
        refine (HSI.out _ _ _ _ hSd HPf.out).mono ?_
        rintro e u1 ⟨rfl, hbut, Y, hY, hYt⟩
        refine ⟨_, rfl, ?_⟩
        simp only [Act.put, List.setIfInBounds_toArray, List.set_cons_zero, List.set_cons_succ]
        refine Lw.take_to (i := 11) (some 21) (.int .i64 0) rfl rfl (by kernel_rfl) (by kernel_rfl) (by kernel_rfl) (fun _ _ _ h => h) (Or.inl ⟨by rfl, fun w => by go_simp⟩) ?_
        simp only [Act.put, List.setIfInBounds_toArray, List.set_cons_zero, List.set_cons_succ]
        refine wpAny_done (by kernel_rfl) ?_ _
        generalize (if nx = p then some (⟨g, 0, none⟩ : Addr) else some ⟨g, p, none⟩) = ppvd
        have HB : Hid (Below w.heap.size w u1) := hbut.below HBd.out HG2.out HBd.out.size
        have HSx := Lib.hid hY
        have HVt := Lib.hid hYt
        clear hbut hY hYt HBd hSd HSI
        go_wp2_with (go_at_call 10; fail)
        refine (HSe.out _).mono ?_
        rintro e u2 ⟨rfl, hb⟩
        have HSx := Lib.hid (HSx.out.on hb)
        have HB : Hid (Below w.heap.size w u2) := Lw.go_on HB.out hb
        have hct := HSx.out.text nx
        rw [HVt.out] at hct
        clear hb HSe
        go_upto_region 20 with (go_at_call 11; refine (Lw.num_same _ _).mono ?_; rintro e u2 ⟨rfl, rfl⟩)
        clear hct
        have hSd := HSx.out.drew
        have HBd : Hid (Below w.heap.size w u2.drew) := HB.out.drew
        clear HB HSx
        refine wp_region_any (by kernel_rfl) ?_
        change wpAny _ _ _ _ _ _ _ u2.drew
        generalize u2.drew = ve at hSd HBd ⊢
        refine Lw.take_to (i := 0) (some 131) (.int .i64 z) rfl rfl (by kernel_rfl) (by kernel_rfl) (by kernel_rfl) (fun _ _ _ h => h) (Or.inl ⟨by rfl, fun w => by go_simp⟩) ?_
        refine Lw.take_to (i := 1) (some 132) (.string K) rfl rfl (by kernel_rfl) (by kernel_rfl) (by kernel_rfl) (fun _ _ _ h => h) (Or.inl ⟨by rfl, fun w => by go_simp⟩) ?_
        refine Lw.take_to (i := 2) (some 133) (.string N) rfl rfl (by kernel_rfl) (by kernel_rfl) (by kernel_rfl) (fun _ _ _ h => h) (Or.inl ⟨by rfl, fun w => by go_simp⟩) ?_
        refine Lw.take_to (i := 3) (some 134) (.string a2) rfl rfl (by kernel_rfl) (by kernel_rfl) (by kernel_rfl) (fun _ _ _ h => h) (Or.inl ⟨by rfl, fun w => by go_simp⟩) ?_
        refine Lw.take_to (i := 4) (some 135) (.slice (some ⟨g, 0, none⟩) nx nx) rfl rfl (by kernel_rfl) (by kernel_rfl) (by kernel_rfl) (fun _ _ _ h => h) (Or.inl ⟨by rfl, fun w => by go_simp⟩) ?_
        refine Lw.take_to (i := 5) (some 136) (.int .i64 (p : Int)) rfl rfl (by kernel_rfl) (by kernel_rfl) (by kernel_rfl) (fun _ _ _ h => h) (Or.inl ⟨by rfl, fun w => by go_simp⟩) ?_
        refine Lw.take_to (i := 6) (some 137) (.slice (some ⟨g, 0, none⟩) p nx) rfl rfl (by kernel_rfl) (by kernel_rfl) (by kernel_rfl) (fun _ _ _ h => h) (Or.inl ⟨by rfl, fun w => by go_simp⟩) ?_
        refine Lw.take_to (i := 7) (some 138) (.slice (some ⟨g, 0, none⟩) nx nx) rfl rfl (by kernel_rfl) (by kernel_rfl) (by kernel_rfl) (fun _ _ _ h => h) (Or.inl ⟨by rfl, fun w => by go_simp⟩) ?_
        refine Lw.take_to (i := 8) (some 139) (.int .i64 (p : Int)) rfl rfl (by kernel_rfl) (by kernel_rfl) (by kernel_rfl) (fun _ _ _ h => h) (Or.inl ⟨by rfl, fun w => by go_simp⟩) ?_
        refine Lw.take_to (i := 9) (some 140) (.slice (if nx = p then some ⟨g, 0, none⟩ else some ⟨g, p, none⟩) m (nx - p)) rfl rfl (by kernel_rfl) (by kernel_rfl) (by kernel_rfl) (fun _ _ _ h => h) (Or.inl ⟨by rfl, fun w => by go_simp⟩) ?_
        simp only [Act.put, List.setIfInBounds_toArray, List.set_cons_zero, List.set_cons_succ]
        refine wpAny_ready (rs := [10]) (by kernel_rfl) (by simp) ?_
        refine Rt.ready_callTo (some 141) rfl rfl rfl 12 _ _ rfl (fun _ _ => by go_simp) #[.int .i64 z, .string K, .string N, .string a2, .slice (some ⟨g, 0, none⟩) p nx, .slice (if nx = p then some ⟨g, 0, none⟩ else some ⟨g, p, none⟩) m (nx - p)] (by kernel_rfl) ?_ AllReady.nil
        refine (HOI.out _ _ _ _ _ hSd HVt.out HPf.out).mono ?_
        rintro e u3 ⟨rfl, hbut, Y2, hY, hYt⟩
        refine ⟨_, rfl, ?_⟩
        simp only [Act.put, List.setIfInBounds_toArray, List.set_cons_zero, List.set_cons_succ]
        refine Lw.take_to (i := 11) (some 130) (.tuple #[.int .i64 (n : Nat), .int .i64 0]) rfl rfl (by kernel_rfl) (by kernel_rfl) (by kernel_rfl) (fun _ _ _ h => h) (Or.inl ⟨by rfl, fun w => by go_simp⟩) ?_
        refine Lw.take_to (i := 12) (some 142) (.int .i64 (n : Nat)) rfl rfl (by kernel_rfl) (by kernel_rfl) (by kernel_rfl) (fun _ _ _ h => h) (Or.inl ⟨by rfl, fun w => by go_simp⟩) ?_
        refine Lw.take_to (i := 13) (some 143) (.int .i64 0) rfl rfl (by kernel_rfl) (by kernel_rfl) (by kernel_rfl) (fun _ _ _ h => h) (Or.inl ⟨by rfl, fun w => by go_simp⟩) ?_
        refine Lw.take_to (i := 14) (some 24) (.int .i64 (n : Nat)) rfl rfl (by kernel_rfl) (by kernel_rfl) (by kernel_rfl) (fun _ _ _ h => h) (Or.inl ⟨by rfl, fun w => by go_simp⟩) ?_
        refine Lw.take_to (i := 15) (some 25) (.int .i64 0) rfl rfl (by kernel_rfl) (by kernel_rfl) (by kernel_rfl) (fun _ _ _ h => h) (Or.inl ⟨by rfl, fun w => by go_simp⟩) ?_
        simp only [Act.put, List.setIfInBounds_toArray, List.set_cons_zero, List.set_cons_succ]
        refine wpAny_done (by kernel_rfl) ?_ _
        generalize (if nx = p then some (⟨g, 0, none⟩ : Addr) else some ⟨g, p, none⟩) = ppve
        have HB : Hid (Below w.heap.size w u3) := hbut.below HBd.out HG2.out HBd.out.size
        have hY' := Lib.hid fun y => ((hY.on (Lw.below_drewN (Below.refl u3.heap.size u3) y)).text nx)
        rw [hYt] at hY'
        clear hbut hY hYt HBd hSd HOI HPf HVt
        go_upto_region 21 with (fail)
        have hct := hY'.out
        have hn := HNs.out
        have zt := HZt.out
        have hve := HVe.out
        have nn : (n : Int) ≤ (nx : Int) := by omega
        have qq : ¬ 9223372036854775807 < n + (nx - n) := by have := HNx.out; have := HN3.out; omega
        go_quiet (first | (go_at_call 11; refine Calls.quiet_of_same (Lw.num_same _ _)))
        clear hct hY'
        go_wp2_with (fail)
        go_ret
        exact ⟨rfl, Lw.below_drewN HB.out nq⟩

set_option maxRecDepth 100000 in
theorem lifted (os : Os) (started : os.Started) (H : Type) (enc : TypeId × Value → H) :
    ReturnsInHanded {} Try.checked os 3 .any (Rows.aeadBackSpec.pre6 enc Try.prog Try.f3 Rows.aeadBackRow.domain false) (Rows.aeadBackSpec.post enc Try.prog Try.f3 false true false false) := by
  refine returnsInHanded_of_change (C := Try.checked) own started (by kernel_rfl) Try.func3
    (ChangeSpec.witness6 (enc := enc) (C := Try.checked) false ⟨#[], #[.int .i64 0, .string ByteArray.empty, .string ByteArray.empty, .string ByteArray.empty, .int .i64 0], []⟩ 8 (by kernel_rfl) (by kernel_rfl) (by kernel_rfl) (by kernel_rfl)) ?_
  intro W base args ds gs before hval0 hW hcnd _
  have hval : ∀ (j : Nat) t v, Try.f3.params[j]? = some t → args[j]? = some v → Value.okWide Try.prog W .any base t v := hval0
  have hW' := hW
  obtain ⟨p, q, hA0, hV, rfl, hfz, hnd⟩ := hW
  have hA : DataW.TrodAll enc Try.prog W 0 (fun _ => true) true Try.f3.params.toList args.toList ds p := hA0
  rw [Try.params3] at hA hval
  obtain ⟨v0, vs0, d0, ds0, p0, q0, hargs, rfl, rfl, h0, r0⟩ := trodAll_cons hA
  obtain ⟨v1, vs1, d1, ds1, p1, q1, rfl, rfl, rfl, h1, r1⟩ := trodAll_cons r0
  obtain ⟨v2, vs2, d2, ds2, p2, q2, rfl, rfl, rfl, h2, r2⟩ := trodAll_cons r1
  obtain ⟨v3, vs3, d3, ds3, p3, q3, rfl, rfl, rfl, h3, r3⟩ := trodAll_cons r2
  obtain ⟨v4, vs4, d4, ds4, p4, q4, rfl, rfl, rfl, h4, r4⟩ := trodAll_cons r3
  obtain ⟨rfl, rfl, rfl⟩ := trodAll_nil r4
  obtain rfl : args = #[v0, v1, v2, v3, v4] := by cases args; simp_all
  obtain ⟨rfl, rfl⟩ := trodVars_none hV
  obtain ⟨a0, rfl, rfl, rfl, w0⟩ := open_int Try.underlying3 (hval 0 3 v0 rfl rfl) h0
  obtain ⟨a1, rfl, rfl, rfl, w1⟩ := open_string Try.underlying9 (hval 1 9 v1 rfl rfl) h1
  obtain ⟨a2, rfl, rfl, rfl, w2⟩ := open_string Try.underlying9 (hval 2 9 v2 rfl rfl) h2
  obtain ⟨a3, rfl, rfl, rfl, w3⟩ := open_string Try.underlying9 (hval 3 9 v3 rfl rfl) h3
  obtain ⟨a4, rfl, rfl, rfl, w4⟩ := open_int Try.underlying3 (hval 4 3 v4 rfl rfl) h4
  clear hA0 hval0
  simp only [List.append_nil] at hW'
  refine (walk a0 a1 a2 a3 a4 w0 w1 w2 w3 w4 W).mono fun e W' ⟨he, bel⟩ => ?_
  subst he
  exact ⟨_, rfl, _, _, _, [], [], [], hW', trodAll_mk1 (shut_bool Try.underlying4 _), (trodAll_cons_mk (shut_int Try.underlying3 w0) (trodAll_cons_mk (shut_string Try.underlying9 w1) (trodAll_cons_mk (shut_string Try.underlying9 w2) (trodAll_cons_mk (shut_string Try.underlying9 w3) (trodAll_cons_mk (shut_int Try.underlying3 w4) trodAll_mk0))))), rfl, bel.frame _, fun h => by cases h⟩

theorem over : Rows.aeadBackRow.holds Try.pinned (OpenSpec.ofChange Rows.aeadBackSpec) :=
  OpenClaim.holds_of_wide 3 Try.f3 rfl rfl rfl rfl rfl rfl rfl ⟨rfl, rfl, rfl, rfl, rfl⟩ rfl rfl rfl rfl rfl (by kernel_rfl) Try.func3 (by kernel_rfl)
    (of_decide_eq_true (by kernel_rfl)) (by unfold Func.isWrapper; first | (rw [if_pos (by decide +kernel)]; kernel_rfl) | (rw [if_neg (by decide +kernel)]; exact ⟨rfl, rfl⟩))
    (fun os started H enc _ => lifted os started H enc)

theorem proved : Rows.AeadBackSaid :=
  over
#print axioms proved
end Go.Proofs.Ytljhenjbjondkaa.aeadBack
