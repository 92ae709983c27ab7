/-
  AeadTwins (P8.1, P8.2): at every input, of any cut into two segments, opening in its place and by copying come to the same.
-/
import Derived.Test.YtljhenjbjondkaaJocb
import Derived.Test.YtljhenjbjondkaaRows
import Derived.WalkKit
import Derived.ProofKit
import Derived.OpenShut
import Derived.ShutString
import Derived.Below
import Derived.ChangeOld
namespace Go.Proofs.Ytljhenjbjondkaa.aeadTwins
open Go.ChangeShapes Go.WideShapes Go.ChangeAt Go.RowKit
open Go.ChangeMaps (open_string shut_string)
set_option linter.unusedVariables false

theorem own : ownKnob Try.prog.godebug = none := by kernel_rfl

set_option maxHeartbeats 8000000 in
set_option maxRecDepth 100000 in
theorem walk (a0 : Int) (a1 : ByteArray) (a2 : ByteArray) (a3 : Int) (a4 : Int) (_w0 : (Lit.int .i64 a0).wf = true) (_w1 : a1.size ≤ maxLen) (_w2 : a2.size ≤ maxLen) (_w3 : (Lit.int .i64 a3).wf = true) (_w4 : (Lit.int .i64 a4).wf = true) (w : World) :
    Calls Try.prog 6 #[.int .i64 a0, .string a1, .string a2, .int .i64 a3, .int .i64 a4] w fun e w' => e = .returned (.bool true) ∧ Below w.heap.size w w' := by
  have HB : Hid (Below w.heap.size w w) := Below.refl _ _
  clear _w0 _w1 _w2 _w3 _w4
  by_cases hs : 2000 < a2.size
  · have e3 : ((2000 : Int) < (a2.size : Int)) = True := eq_true (by omega)
    clear hs
    go_enter Try.func6, Try.ntmps6
    go_wp2_with (first | (go_at_call 11; refine (Lw.num_same _ _).mono ?_; rintro e u ⟨rfl, rfl⟩) | (go_at_call 7; refine (Ew.awake8_any _).mono ?_; rintro e u ⟨rfl, hb⟩; have HB := Lib.hid (Lw.go_on HB.out hb); clear hb))
    go_ret
    exact ⟨rfl, HB.out⟩
  have e3 : ((2000 : Int) < (a2.size : Int)) = False := eq_false (by omega)
  obtain ⟨q, z, kk, B, hq1, hq2, hq3, hz, hE, hK, hBb, hkk, _⟩ := Ew.suite_of a0
  obtain ⟨n, hn⟩ : ∃ n, a2.size = n := ⟨_, rfl⟩
  rw [hn] at e3 hs
  have HNs := Lib.hid hn
  have HN3 : Hid (n ≤ 2000) := by show n ≤ 2000; omega
  have HKk : Hid (kk = 16 ∨ kk = 32) := hkk
  obtain ⟨nb, hnb⟩ : ∃ nb, kk + 12 = nb := ⟨_, rfl⟩
  have HNb := Lib.hid hnb
  obtain ⟨nx, hnx⟩ : ∃ nx, n + 16 = nx := ⟨_, rfl⟩
  have HNx := Lib.hid hnx
  have b1 : (kk : Int) + 12 = (nb : Int) := by omega
  have b2 : nb ≤ 44 := by omega
  have b3 : (nb : Int) ≤ 44 := by omega
  have b4 : (kk : Int) ≤ 32 := by omega
  have qw : (q : Int) ≤ 2 := by omega
  have qi : IntKind.i64.wrap (q : Int) = (q : Int) := IntWalk.i64_in _ (by omega)
  have HSz : Hid (∀ u, Calls Try.prog 8 #[.int .i64 z] u fun e w' => e = .returned (.tuple #[.int .i64 (kk : Int), .int .i64 B, .int .i64 0]) ∧ Below u.heap.size u w') := fun u => by
    have h := Ed.sizes_any z u
    rw [hE, hK, hBb] at h
    exact h
  obtain ⟨M, hM, hMc, hmk⟩ := Lw.zeros nb (by omega)
  have HM := Lib.hid hM
  have HMc := Lib.hid hMc
  have HE := Lib.hid hE
  have HKe := Lib.hid hK
  clear hs hM hMc hE hK hBb hkk hnb hnx b2
  go_enter Try.func6, Try.ntmps6
  go_wp2_with (go_at_call 7; fail)
  refine (Ew.awake8_any _).mono ?_
  rintro e u ⟨rfl, hb⟩
  have HB := Lib.hid (Lw.go_on HB.out hb)
  clear hb
  go_wp2_with (go_at_call 8; fail)
  refine (HSz.out _).mono ?_
  rintro e u0 ⟨rfl, hb⟩
  have HB := Lib.hid (Lw.go_on HB.out hb)
  clear hb HSz
  go_wp2_with (fail)
  have HR : Hid (Lw.RowB (u0.alloc (.cells M 5)) u0.heap.size nb (fun _ => 0)) := Lw.rowB_new u0 M nb HM.out HMc.out
  have HG : Hid (w.heap.size ≤ u0.heap.size) := HB.out.size
  have HB : Hid (Below w.heap.size w (u0.alloc (.cells M 5))) := HB.out.alloc HG.out _
  clear hmk HM HMc e3 hq1 hq2 qw qi
  generalize u0.heap.size = gb at HR HG ⊢
  generalize u0.alloc (.cells M 5) = w1 at HR HB ⊢
  go_loopw [16] (fun v wx => ∃ (j : Nat) (X : Nat → Nat), Hid (j ≤ nb) ∧ v = .int .i64 j ∧ Hid (Lw.RowB wx gb nb X) ∧ Hid (Below w.heap.size w wx)) (fun v _ => nb - (intOf v).toNat)
  case atStart => exact ⟨0, fun _ => 0, Nat.zero_le _, rfl, HR, HB⟩
  case round =>
    clear HR HB
    obtain ⟨j, X, hj, rfl, HR, HB⟩ := hrel
    by_cases hlt : j < nb ∧ j < a1.size
    · have jl : ((j : Int) < (nb : Int)) = True := eq_true (by omega)
      have jl' : (j : Int) < (nb : Int) := by omega
      have js : ((j : Int) < (a1.size : Int)) = True := eq_true (by omega)
      have js' : (j : Int) < (a1.size : Int) := by omega
      have jn : j < a1.size := hlt.2
      have xc := World.rowIs.cell HR.out (i := j) hlt.1
      have xf := World.rowIs.frozen HR.out j
      have v0 : ∀ h : j < a1.size, (a1[j]'h).toNat = Aes.byt a1 j := fun h => Aes.get_byt a1 _ h
      have HJ := Lib.hid hlt.1
      clear hlt
      go_wp2_with (fail)
      exact ⟨⟨j + 1, _, HJ.out, by go_num, HR.out.set j (Aes.byt a1 j), HB.out.setCell HG.out _⟩, Lw.meas nb j HJ.out⟩
    · have hc1 := Lib.hid fun y => (HR.out.drewN y).text 0 kk nb (by have := HNb.out; omega)
      have hc2 := Lib.hid fun y => (HR.out.drewN y).text kk 12 12 (by have := HNb.out; omega)
      have HKs : Hid ((Lw.pieceS X 0 kk).size = kk) := Lw.pieceS_size _ _ _
      have HN : Hid ((Lw.pieceS X kk 12).size = 12) := Lw.pieceS_size _ _ _
      generalize Lw.pieceS X 0 kk = K at hc1 HKs
      generalize Lw.pieceS X kk 12 = N at hc2 HN
      have HOk : Hid (Ad.s8Ok z K N ⟨#[97, 97, 100]⟩ a2 = true) := (Ad.s8_iff z K N ⟨#[97, 97, 100]⟩ a2).2 ⟨⟨⟨HE.out, by rw [HKe.out, HKs.out]⟩, HN.out, by decide⟩, by have := HN3.out; have := HNs.out; omega⟩
      have hin := Ew.in_new z K N ⟨#[97, 97, 100]⟩ a2 HOk.out
      have HSe : Hid (∀ u, Calls Try.prog 10 #[.int .i64 z, .string K, .string N, .string ⟨#[97, 97, 100]⟩, .string a2] u fun e w' => e = .returned (.tuple #[.string (Ad.s8T z K N ⟨#[97, 97, 100]⟩ a2), .int .i64 0]) ∧ Below u.heap.size u w') := fun u => by
        have h := Ed.seal_any z K N ⟨#[97, 97, 100]⟩ a2 u
        rw [hin.2.2.1, hin.2.2.2] at h
        exact h
      have HZt : Hid ((Ad.s8T z K N ⟨#[97, 97, 100]⟩ a2).size = nx) := by show _ = nx; rw [Ad.s8T_size, HNs.out, HNx.out]
      generalize Ad.s8T z K N ⟨#[97, 97, 100]⟩ a2 = T at HSe HZt
      clear hin
      by_cases hl : j < nb
      · have jl : ((j : Int) < (nb : Int)) = True := eq_true (by omega)
        have js : ((j : Int) < (a1.size : Int)) = False := eq_false (by omega)
        clear hlt hl
        have kb1 : (kk : Int) ≤ (nb : Int) := by omega
        have kb2 : (nb : Int) - (kk : Int) = 12 := by omega
        have kb3 : (nb = kk) = False := eq_false (by have := HNb.out; omega)
        go_upto_region 12 with (fail)
        clear jl js
        have c1 := hc1.out
        have c2 := hc2.out
        have kb4 : nb - kk = 12 := by have := HNb.out; omega
        go_quiet (fail)
        have HB := Lib.hid (Lw.below_drewN HB.out nq)
        clear c1 c2 hc1 hc2 HR kb1 kb2 kb3 kb4
        generalize wr.drewN nq = w2 at HB ⊢
        go_wp2_with (go_at_call 10; fail)
        refine (HSe.out _).mono ?_
        rintro e w3 ⟨rfl, hb⟩
        have HB := Lib.hid (Lw.go_on HB.out hb)
        clear hb HSe
        have hbr := fun W => Ew.bytes_run W T
        have HSg := Lib.hid (fun W => Ew.bytes_seg W T)
        have HWb := Lib.hid (fun W => Ew.bytes_below W T)
        rw [HZt.out] at hbr HSg
        have hcc := grownCap_ge w3 nx 0 5
        go_upto_region 15 with (fail)
        clear hbr
        have HG2 : Hid (w.heap.size ≤ w3.heap.size) := HB.out.size
        have HSx := Lib.hid (HSg.out w3)
        have HB : Hid (Below w.heap.size w (Ew.bytesW w3 T)) := Lw.go_on HB.out (HWb.out w3)
        clear HSg HWb
        generalize Ew.bytesW w3 T = w4 at HSx HB ⊢
        generalize grownCap w3 nx 0 5 = C at hcc ⊢
        generalize w3.heap.size = g at HSx HG2 ⊢
        have hnC : (nx : Int) ≤ (C : Int) := by omega
        have HC := Lib.hid hcc
        clear hcc
        have nz : ((0 : Int) < (nx : Int)) = True := eq_true (by have := HNx.out; omega)
        have xl : (nx : Int) ≤ 2016 := by have := HNx.out; have := HN3.out; omega
        have nw : IntKind.u64.wrap (nx : Int) = (nx : Int) := by show _ % 18446744073709551616 = _; omega
        obtain ⟨m3, hm3, hmq⟩ := Lw.maskN3 a4
        by_cases h1 : m3 = 1
        · have hmq1 : bits .and .i64 a4 3 = 1 := by rw [hmq, h1]; rfl
          clear hmq h1 hm3
          obtain ⟨i, hi, hs1, hs2⟩ := Ew.spot_of a4 nx (by have := HNx.out; omega)
          obtain ⟨x, hx, hxe⟩ := Lw.u8_some (Aes.byt T i) 16
          have xcf := HSx.out.2 i hi
          rw [Nat.zero_add] at xcf
          have xc := xcf.1
          have xf := xcf.2
          have HI := Lib.hid hi
          have il : (i : Int) < (nx : Int) := by omega
          have il2 : (i : Int) ≤ 2016 := by omega
          have iw : IntKind.i64.wrap (i : Int) = (i : Int) := IntWalk.i64_in _ (by omega)
          clear xcf hi
          go_upto_region 18 with (fail)
          clear hmq1 hs1 hs2 hxe xc xf il il2 iw nz
          have HSx := Lib.hid (HSx.out.set i x HI.out)
          have HB : Hid (Below w.heap.size w (w4.setCell ⟨g, i, none⟩ (.int .u8 (x : Nat)))) := HB.out.setCell HG2.out _
          generalize (fun i' => if i' = i then x else Aes.byt T i') = Xa at HSx
          generalize w4.setCell ⟨g, i, none⟩ (.int .u8 (x : Nat)) = w5 at HSx HB ⊢
          have hct := HSx.out.text C
          obtain ⟨A, hA⟩ : ∃ A, Lw.pieceS Xa 0 nx = A := ⟨_, rfl⟩
          have HAs : Hid (A.size = nx) := by show _ = nx; rw [← hA]; exact Lw.pieceS_size _ _ _
          have HAe := Lib.hid hA
          rw [hA] at hct
          clear hA
          obtain ⟨p, hp, hq1, hq2⟩ := Ew.cut_of a3 nx
          obtain ⟨m, hm⟩ : ∃ m, nx - p = m := ⟨_, rfl⟩
          have HP := Lib.hid hp
          have HPm : Hid (p + m = nx) := by show p + m = nx; omega
          have HPf : Hid (p ≤ C ∧ m ≤ C - p ∧ (m = 0 ∨ (if C = p then some (⟨g, 0, none⟩ : Addr) else some ⟨g, p, none⟩) = some ⟨g, p, none⟩)) := by
            refine (show _ ∧ _ ∧ (_ ∨ _) from ⟨by have := HPm.out; have := HC.out; omega, by have := HPm.out; have := HC.out; omega, ?_⟩)
            by_cases hc : C = p
            · exact .inl (by have := HPm.out; have := HC.out; omega)
            · exact .inr (if_neg hc)
          have HO := Lib.hid (fun u => Ed.open_any z K N ⟨#[97, 97, 100]⟩ A u (by have := HAs.out; have := HNx.out; have := HN3.out; omega))
          have HCa := Lib.hid (Ew.o8_cases z K N ⟨#[97, 97, 100]⟩ A)
          have HOI : Hid (∀ (u : World) (p2 : Option Addr) (c1 c2 : Nat), Ew.Seg u g 0 nx Xa → (p ≤ c1 ∧ m ≤ c2 ∧ (m = 0 ∨ p2 = some ⟨g, p, none⟩)) → Calls Try.prog 12 #[.int .i64 z, .string K, .string N, .string ⟨#[97, 97, 100]⟩, .slice (some ⟨g, 0, none⟩) p c1, .slice p2 m c2] u fun e w' =>
              e = .returned (.tuple #[.int .i64 ((Ad.o8S z K N ⟨#[97, 97, 100]⟩ A).size : Nat), .int .i64 (Ad.o8E z K N ⟨#[97, 97, 100]⟩ A)]) ∧ Pd.But g u w' ∧ ∃ Y, Ew.Seg w' g 0 nx Y ∧ Lw.pieceS Y 0 nx = Ad.o8X z K N ⟨#[97, 97, 100]⟩ A) := fun u p2 c1 c2 hs hp => by
            have h := Ed.openIn_any z K N ⟨#[97, 97, 100]⟩ g 0 p m nx c1 c2 (some ⟨g, 0, none⟩) p2 Xa u hs (.inr rfl) (by rw [Nat.zero_add]; exact hp.2.2) HPm.out (by have := HNx.out; have := HN3.out; omega) hp.1 hp.2.1
            rw [HAe.out] at h
            exact h
          generalize Ad.o8S z K N ⟨#[97, 97, 100]⟩ A = P at HOI HO HCa
          generalize Ad.o8E z K N ⟨#[97, 97, 100]⟩ A = E at HOI HO HCa
          generalize Ad.o8X z K N ⟨#[97, 97, 100]⟩ A = V at HOI HCa
          obtain ⟨np, hnp⟩ : ∃ np, P.size = np := ⟨_, rfl⟩
          rw [hnp] at HOI HCa
          rw [HAs.out] at HCa
          have HNp := Lib.hid hnp
          clear hnp hp
          go_wp2_with (go_at_call 15; fail)
          refine (HO.out _).mono ?_
          rintro e u1 ⟨rfl, hb⟩
          have HSx := Lib.hid (HSx.out.on hb)
          have HB := Lib.hid (Lw.go_on HB.out hb)
          clear hb HO hct
          have hd : nx + 1 < 2018 := by omega
          have hw : IntKind.u64.wrap ((nx : Int) + 1) = (nx : Int) + 1 := by show _ % 18446744073709551616 = _; omega
          have hpl : (p : Int) ≤ 2016 := by have := HP.out; omega
          have hpi : IntKind.i64.wrap (p : Int) = (p : Int) := IntWalk.i64_in _ (by omega)
          go_upto_region 21 with (fail)
          clear hq1 hq2 hd hw hpi
          have d1 : (p : Int) ≤ (C : Int) := by have := HP.out; omega
          have d3 : (p : Int) ≤ (nx : Int) := by have := HP.out; omega
          have d6 : (nx : Int) - (p : Int) = (m : Int) := by have := HPm.out; omega
          have hSd := HSx.out.drew
          have HBd : Hid (Below w.heap.size w u1.drew) := HB.out.drew
          clear HB HSx
          refine wp_region_any (by kernel_rfl) ?_
          change wpAny _ _ _ _ _ _ _ u1.drew
          generalize u1.drew = ve at hSd HBd ⊢
          refine Lw.take_to (i := 0) (some 127) (.int .i64 z) rfl rfl (by kernel_rfl) (by kernel_rfl) (by kernel_rfl) (fun _ _ _ h => h) (Or.inl ⟨by rfl, fun w => by go_simp⟩) ?_
          refine Lw.take_to (i := 1) (some 128) (.string K) rfl rfl (by kernel_rfl) (by kernel_rfl) (by kernel_rfl) (fun _ _ _ h => h) (Or.inl ⟨by rfl, fun w => by go_simp⟩) ?_
          refine Lw.take_to (i := 2) (some 129) (.string N) rfl rfl (by kernel_rfl) (by kernel_rfl) (by kernel_rfl) (fun _ _ _ h => h) (Or.inl ⟨by rfl, fun w => by go_simp⟩) ?_
          refine Lw.take_to (i := 3) (some 130) (.slice (some ⟨g, 0, none⟩) nx C) rfl rfl (by kernel_rfl) (by kernel_rfl) (by kernel_rfl) (fun _ _ _ h => h) (Or.inl ⟨by rfl, fun w => by go_simp⟩) ?_
          refine Lw.take_to (i := 4) (some 131) (.int .i64 (p : Int)) rfl rfl (by kernel_rfl) (by kernel_rfl) (by kernel_rfl) (fun _ _ _ h => h) (Or.inl ⟨by rfl, fun w => by go_simp⟩) ?_
          refine Lw.take_to (i := 5) (some 132) (.slice (some ⟨g, 0, none⟩) p C) rfl rfl (by kernel_rfl) (by kernel_rfl) (by kernel_rfl) (fun _ _ _ h => h) (Or.inl ⟨by rfl, fun w => by go_simp⟩) ?_
          refine Lw.take_to (i := 6) (some 133) (.slice (some ⟨g, 0, none⟩) nx C) rfl rfl (by kernel_rfl) (by kernel_rfl) (by kernel_rfl) (fun _ _ _ h => h) (Or.inl ⟨by rfl, fun w => by go_simp⟩) ?_
          refine Lw.take_to (i := 7) (some 134) (.int .i64 (p : Int)) rfl rfl (by kernel_rfl) (by kernel_rfl) (by kernel_rfl) (fun _ _ _ h => h) (Or.inl ⟨by rfl, fun w => by go_simp⟩) ?_
          refine Lw.take_to (i := 8) (some 135) (.slice (if C = p then some ⟨g, 0, none⟩ else some ⟨g, p, none⟩) m (C - p)) rfl rfl (by kernel_rfl) (by kernel_rfl) (by kernel_rfl) (fun _ _ _ h => h) (Or.inl ⟨by rfl, fun w => by go_simp⟩) ?_
          simp only [Act.put, List.setIfInBounds_toArray, List.set_cons_zero, List.set_cons_succ]
          refine wpAny_ready (rs := [9]) (by kernel_rfl) (by simp) ?_
          refine Rt.ready_callTo (some 136) rfl rfl rfl 12 _ _ rfl (fun _ _ => by go_simp) #[.int .i64 z, .string K, .string N, .string ⟨#[97, 97, 100]⟩, .slice (some ⟨g, 0, none⟩) p C, .slice (if C = p then some ⟨g, 0, none⟩ else some ⟨g, p, none⟩) m (C - p)] (by kernel_rfl) ?_ AllReady.nil
          refine (HOI.out _ _ _ _ hSd HPf.out).mono ?_
          rintro e u2 ⟨rfl, hbut, Y, hY, hYt⟩
          refine ⟨_, rfl, ?_⟩
          simp only [Act.put, List.setIfInBounds_toArray, List.set_cons_zero, List.set_cons_succ]
          refine Lw.take_to (i := 10) (some 126) (.tuple #[.int .i64 (np : Nat), .int .i64 E]) rfl rfl (by kernel_rfl) (by kernel_rfl) (by kernel_rfl) (fun _ _ _ h => h) (Or.inl ⟨by rfl, fun w => by go_simp⟩) ?_
          refine Lw.take_to (i := 11) (some 137) (.int .i64 (np : Nat)) rfl rfl (by kernel_rfl) (by kernel_rfl) (by kernel_rfl) (fun _ _ _ h => h) (Or.inl ⟨by rfl, fun w => by go_simp⟩) ?_
          refine Lw.take_to (i := 12) (some 138) (.int .i64 E) rfl rfl (by kernel_rfl) (by kernel_rfl) (by kernel_rfl) (fun _ _ _ h => h) (Or.inl ⟨by rfl, fun w => by go_simp⟩) ?_
          refine Lw.take_to (i := 13) (some 27) (.int .i64 (np : Nat)) rfl rfl (by kernel_rfl) (by kernel_rfl) (by kernel_rfl) (fun _ _ _ h => h) (Or.inl ⟨by rfl, fun w => by go_simp⟩) ?_
          refine Lw.take_to (i := 14) (some 28) (.int .i64 E) rfl rfl (by kernel_rfl) (by kernel_rfl) (by kernel_rfl) (fun _ _ _ h => h) (Or.inl ⟨by rfl, fun w => by go_simp⟩) ?_
          simp only [Act.put, List.setIfInBounds_toArray, List.set_cons_zero, List.set_cons_succ]
          refine wpAny_done (by kernel_rfl) ?_ _
          generalize (if C = p then some (⟨g, 0, none⟩ : Addr) else some ⟨g, p, none⟩) = ppve
          have HB : Hid (Below w.heap.size w u2) := hbut.below HBd.out HG2.out HBd.out.size
          clear hbut HBd hSd HOI HPf
          have hnp := HNp.out
          rcases HCa.out with ⟨rfl, hV, hP⟩ | ⟨hE, rfl, rfl⟩
          · have hY' := Lib.hid fun y => (hY.on (Lw.below_drewN (Below.refl u2.heap.size u2) y)).parts HNp.out HAs.out (by omega) (hYt.trans hV) C (C - np)
            have np1 : (np : Int) ≤ (nx : Int) := by omega
            have np2 : (np : Int) ≤ (C : Int) := by omega
            have np3 : (C = np) = False := eq_false (by have := HC.out; omega)
            have np4 : (nx : Int) - (np : Int) = ((nx - np : Nat) : Int) := by omega
            have has := HAs.out
            clear hV hYt hY
            go_upto_region 26 with (go_at_call 11; refine (Lw.num_same _ _).mono ?_; rintro e u2 ⟨rfl, rfl⟩)
            have hc3 := fun y => (hY'.out y).1
            have hc4 := fun y => (hY'.out y).2
            clear hY'
            go_quiet (fail)
            clear hc3 hc4
            go_wp2_with (fail)
            go_ret
            exact ⟨rfl, Lw.below_drewN HB.out nq⟩
          · have hct := hY.text C
            rw [hYt] at hct
            clear hYt hY
            have np0 : np = 0 := hnp.symm.trans rfl
            rcases hE with rfl | rfl
            · go_wp2_with (go_at_call 11; refine (Lw.num_same _ _).mono ?_; rintro e u2 ⟨rfl, rfl⟩)
              go_ret
              exact ⟨rfl, HB.out⟩
            · go_wp2_with (go_at_call 11; refine (Lw.num_same _ _).mono ?_; rintro e u2 ⟨rfl, rfl⟩)
              go_ret
              exact ⟨rfl, HB.out⟩
        · have hmq1 : (bits .and .i64 a4 3 = 1) = False := eq_false (by rw [hmq]; omega)
          clear hmq h1 hm3
          generalize Aes.byt T = Xa at HSx
          go_upto_region 18 with (fail)
          clear hmq1 nz
          generalize w4 = w5 at HSx HB ⊢
          have hct := HSx.out.text C
          obtain ⟨A, hA⟩ : ∃ A, Lw.pieceS Xa 0 nx = A := ⟨_, rfl⟩
          have HAs : Hid (A.size = nx) := by show _ = nx; rw [← hA]; exact Lw.pieceS_size _ _ _
          have HAe := Lib.hid hA
          rw [hA] at hct
          clear hA
          obtain ⟨p, hp, hq1, hq2⟩ := Ew.cut_of a3 nx
          obtain ⟨m, hm⟩ : ∃ m, nx - p = m := ⟨_, rfl⟩
          have HP := Lib.hid hp
          have HPm : Hid (p + m = nx) := by show p + m = nx; omega
          have HPf : Hid (p ≤ C ∧ m ≤ C - p ∧ (m = 0 ∨ (if C = p then some (⟨g, 0, none⟩ : Addr) else some ⟨g, p, none⟩) = some ⟨g, p, none⟩)) := by
            refine (show _ ∧ _ ∧ (_ ∨ _) from ⟨by have := HPm.out; have := HC.out; omega, by have := HPm.out; have := HC.out; omega, ?_⟩)
            by_cases hc : C = p
            · exact .inl (by have := HPm.out; have := HC.out; omega)
            · exact .inr (if_neg hc)
          have HO := Lib.hid (fun u => Ed.open_any z K N ⟨#[97, 97, 100]⟩ A u (by have := HAs.out; have := HNx.out; have := HN3.out; omega))
          have HCa := Lib.hid (Ew.o8_cases z K N ⟨#[97, 97, 100]⟩ A)
          have HOI : Hid (∀ (u : World) (p2 : Option Addr) (c1 c2 : Nat), Ew.Seg u g 0 nx Xa → (p ≤ c1 ∧ m ≤ c2 ∧ (m = 0 ∨ p2 = some ⟨g, p, none⟩)) → Calls Try.prog 12 #[.int .i64 z, .string K, .string N, .string ⟨#[97, 97, 100]⟩, .slice (some ⟨g, 0, none⟩) p c1, .slice p2 m c2] u fun e w' =>
              e = .returned (.tuple #[.int .i64 ((Ad.o8S z K N ⟨#[97, 97, 100]⟩ A).size : Nat), .int .i64 (Ad.o8E z K N ⟨#[97, 97, 100]⟩ A)]) ∧ Pd.But g u w' ∧ ∃ Y, Ew.Seg w' g 0 nx Y ∧ Lw.pieceS Y 0 nx = Ad.o8X z K N ⟨#[97, 97, 100]⟩ A) := fun u p2 c1 c2 hs hp => by
            have h := Ed.openIn_any z K N ⟨#[97, 97, 100]⟩ g 0 p m nx c1 c2 (some ⟨g, 0, none⟩) p2 Xa u hs (.inr rfl) (by rw [Nat.zero_add]; exact hp.2.2) HPm.out (by have := HNx.out; have := HN3.out; omega) hp.1 hp.2.1
            rw [HAe.out] at h
            exact h
          generalize Ad.o8S z K N ⟨#[97, 97, 100]⟩ A = P at HOI HO HCa
          generalize Ad.o8E z K N ⟨#[97, 97, 100]⟩ A = E at HOI HO HCa
          generalize Ad.o8X z K N ⟨#[97, 97, 100]⟩ A = V at HOI HCa
          obtain ⟨np, hnp⟩ : ∃ np, P.size = np := ⟨_, rfl⟩
          rw [hnp] at HOI HCa
          rw [HAs.out] at HCa
          have HNp := Lib.hid hnp
          clear hnp hp
          go_wp2_with (go_at_call 15; fail)
          refine (HO.out _).mono ?_
          rintro e u1 ⟨rfl, hb⟩
          have HSx := Lib.hid (HSx.out.on hb)
          have HB := Lib.hid (Lw.go_on HB.out hb)
          clear hb HO hct
          have hd : nx + 1 < 2018 := by omega
          have hw : IntKind.u64.wrap ((nx : Int) + 1) = (nx : Int) + 1 := by show _ % 18446744073709551616 = _; omega
          have hpl : (p : Int) ≤ 2016 := by have := HP.out; omega
          have hpi : IntKind.i64.wrap (p : Int) = (p : Int) := IntWalk.i64_in _ (by omega)
          go_upto_region 21 with (fail)
          clear hq1 hq2 hd hw hpi
          have d1 : (p : Int) ≤ (C : Int) := by have := HP.out; omega
          have d3 : (p : Int) ≤ (nx : Int) := by have := HP.out; omega
          have d6 : (nx : Int) - (p : Int) = (m : Int) := by have := HPm.out; omega
          have hSd := HSx.out.drew
          have HBd : Hid (Below w.heap.size w u1.drew) := HB.out.drew
          clear HB HSx
          refine wp_region_any (by kernel_rfl) ?_
          change wpAny _ _ _ _ _ _ _ u1.drew
          generalize u1.drew = ve at hSd HBd ⊢
          refine Lw.take_to (i := 0) (some 127) (.int .i64 z) rfl rfl (by kernel_rfl) (by kernel_rfl) (by kernel_rfl) (fun _ _ _ h => h) (Or.inl ⟨by rfl, fun w => by go_simp⟩) ?_
          refine Lw.take_to (i := 1) (some 128) (.string K) rfl rfl (by kernel_rfl) (by kernel_rfl) (by kernel_rfl) (fun _ _ _ h => h) (Or.inl ⟨by rfl, fun w => by go_simp⟩) ?_
          refine Lw.take_to (i := 2) (some 129) (.string N) rfl rfl (by kernel_rfl) (by kernel_rfl) (by kernel_rfl) (fun _ _ _ h => h) (Or.inl ⟨by rfl, fun w => by go_simp⟩) ?_
          refine Lw.take_to (i := 3) (some 130) (.slice (some ⟨g, 0, none⟩) nx C) rfl rfl (by kernel_rfl) (by kernel_rfl) (by kernel_rfl) (fun _ _ _ h => h) (Or.inl ⟨by rfl, fun w => by go_simp⟩) ?_
          refine Lw.take_to (i := 4) (some 131) (.int .i64 (p : Int)) rfl rfl (by kernel_rfl) (by kernel_rfl) (by kernel_rfl) (fun _ _ _ h => h) (Or.inl ⟨by rfl, fun w => by go_simp⟩) ?_
          refine Lw.take_to (i := 5) (some 132) (.slice (some ⟨g, 0, none⟩) p C) rfl rfl (by kernel_rfl) (by kernel_rfl) (by kernel_rfl) (fun _ _ _ h => h) (Or.inl ⟨by rfl, fun w => by go_simp⟩) ?_
          refine Lw.take_to (i := 6) (some 133) (.slice (some ⟨g, 0, none⟩) nx C) rfl rfl (by kernel_rfl) (by kernel_rfl) (by kernel_rfl) (fun _ _ _ h => h) (Or.inl ⟨by rfl, fun w => by go_simp⟩) ?_
          refine Lw.take_to (i := 7) (some 134) (.int .i64 (p : Int)) rfl rfl (by kernel_rfl) (by kernel_rfl) (by kernel_rfl) (fun _ _ _ h => h) (Or.inl ⟨by rfl, fun w => by go_simp⟩) ?_
          refine Lw.take_to (i := 8) (some 135) (.slice (if C = p then some ⟨g, 0, none⟩ else some ⟨g, p, none⟩) m (C - p)) rfl rfl (by kernel_rfl) (by kernel_rfl) (by kernel_rfl) (fun _ _ _ h => h) (Or.inl ⟨by rfl, fun w => by go_simp⟩) ?_
          simp only [Act.put, List.setIfInBounds_toArray, List.set_cons_zero, List.set_cons_succ]
          refine wpAny_ready (rs := [9]) (by kernel_rfl) (by simp) ?_
          refine Rt.ready_callTo (some 136) rfl rfl rfl 12 _ _ rfl (fun _ _ => by go_simp) #[.int .i64 z, .string K, .string N, .string ⟨#[97, 97, 100]⟩, .slice (some ⟨g, 0, none⟩) p C, .slice (if C = p then some ⟨g, 0, none⟩ else some ⟨g, p, none⟩) m (C - p)] (by kernel_rfl) ?_ AllReady.nil
          refine (HOI.out _ _ _ _ hSd HPf.out).mono ?_
          rintro e u2 ⟨rfl, hbut, Y, hY, hYt⟩
          refine ⟨_, rfl, ?_⟩
          simp only [Act.put, List.setIfInBounds_toArray, List.set_cons_zero, List.set_cons_succ]
          refine Lw.take_to (i := 10) (some 126) (.tuple #[.int .i64 (np : Nat), .int .i64 E]) rfl rfl (by kernel_rfl) (by kernel_rfl) (by kernel_rfl) (fun _ _ _ h => h) (Or.inl ⟨by rfl, fun w => by go_simp⟩) ?_
          refine Lw.take_to (i := 11) (some 137) (.int .i64 (np : Nat)) rfl rfl (by kernel_rfl) (by kernel_rfl) (by kernel_rfl) (fun _ _ _ h => h) (Or.inl ⟨by rfl, fun w => by go_simp⟩) ?_
          refine Lw.take_to (i := 12) (some 138) (.int .i64 E) rfl rfl (by kernel_rfl) (by kernel_rfl) (by kernel_rfl) (fun _ _ _ h => h) (Or.inl ⟨by rfl, fun w => by go_simp⟩) ?_
          refine Lw.take_to (i := 13) (some 27) (.int .i64 (np : Nat)) rfl rfl (by kernel_rfl) (by kernel_rfl) (by kernel_rfl) (fun _ _ _ h => h) (Or.inl ⟨by rfl, fun w => by go_simp⟩) ?_
          refine Lw.take_to (i := 14) (some 28) (.int .i64 E) rfl rfl (by kernel_rfl) (by kernel_rfl) (by kernel_rfl) (fun _ _ _ h => h) (Or.inl ⟨by rfl, fun w => by go_simp⟩) ?_
          simp only [Act.put, List.setIfInBounds_toArray, List.set_cons_zero, List.set_cons_succ]
          refine wpAny_done (by kernel_rfl) ?_ _
          generalize (if C = p then some (⟨g, 0, none⟩ : Addr) else some ⟨g, p, none⟩) = ppve
          have HB : Hid (Below w.heap.size w u2) := hbut.below HBd.out HG2.out HBd.out.size
          clear hbut HBd hSd HOI HPf
          have hnp := HNp.out
          rcases HCa.out with ⟨rfl, hV, hP⟩ | ⟨hE, rfl, rfl⟩
          · have hY' := Lib.hid fun y => (hY.on (Lw.below_drewN (Below.refl u2.heap.size u2) y)).parts HNp.out HAs.out (by omega) (hYt.trans hV) C (C - np)
            have np1 : (np : Int) ≤ (nx : Int) := by omega
            have np2 : (np : Int) ≤ (C : Int) := by omega
            have np3 : (C = np) = False := eq_false (by have := HC.out; omega)
            have np4 : (nx : Int) - (np : Int) = ((nx - np : Nat) : Int) := by omega
            have has := HAs.out
            clear hV hYt hY
            go_upto_region 26 with (go_at_call 11; refine (Lw.num_same _ _).mono ?_; rintro e u2 ⟨rfl, rfl⟩)
            have hc3 := fun y => (hY'.out y).1
            have hc4 := fun y => (hY'.out y).2
            clear hY'
            go_quiet (fail)
            clear hc3 hc4
            go_wp2_with (fail)
            go_ret
            exact ⟨rfl, Lw.below_drewN HB.out nq⟩
          · have hct := hY.text C
            rw [hYt] at hct
            clear hYt hY
            have np0 : np = 0 := hnp.symm.trans rfl
            rcases hE with rfl | rfl
            · go_wp2_with (go_at_call 11; refine (Lw.num_same _ _).mono ?_; rintro e u2 ⟨rfl, rfl⟩)
              go_ret
              exact ⟨rfl, HB.out⟩
            · go_wp2_with (go_at_call 11; refine (Lw.num_same _ _).mono ?_; rintro e u2 ⟨rfl, rfl⟩)
              go_ret
              exact ⟨rfl, HB.out⟩
      · have jl : ((j : Int) < (nb : Int)) = False := eq_false (by omega)
        clear hlt hl
        have kb1 : (kk : Int) ≤ (nb : Int) := by omega
        have kb2 : (nb : Int) - (kk : Int) = 12 := by omega
        have kb3 : (nb = kk) = False := eq_false (by have := HNb.out; omega)
        go_upto_region 12 with (fail)
        clear jl
        have c1 := hc1.out
        have c2 := hc2.out
        have kb4 : nb - kk = 12 := by have := HNb.out; omega
        go_quiet (fail)
        have HB := Lib.hid (Lw.below_drewN HB.out nq)
        clear c1 c2 hc1 hc2 HR kb1 kb2 kb3 kb4
        generalize wr.drewN nq = w2 at HB ⊢
        go_wp2_with (go_at_call 10; fail)
        refine (HSe.out _).mono ?_
        rintro e w3 ⟨rfl, hb⟩
        have HB := Lib.hid (Lw.go_on HB.out hb)
        clear hb HSe
        have hbr := fun W => Ew.bytes_run W T
        have HSg := Lib.hid (fun W => Ew.bytes_seg W T)
        have HWb := Lib.hid (fun W => Ew.bytes_below W T)
        rw [HZt.out] at hbr HSg
        have hcc := grownCap_ge w3 nx 0 5
        go_upto_region 15 with (fail)
        clear hbr
        have HG2 : Hid (w.heap.size ≤ w3.heap.size) := HB.out.size
        have HSx := Lib.hid (HSg.out w3)
        have HB : Hid (Below w.heap.size w (Ew.bytesW w3 T)) := Lw.go_on HB.out (HWb.out w3)
        clear HSg HWb
        generalize Ew.bytesW w3 T = w4 at HSx HB ⊢
        generalize grownCap w3 nx 0 5 = C at hcc ⊢
        generalize w3.heap.size = g at HSx HG2 ⊢
        have hnC : (nx : Int) ≤ (C : Int) := by omega
        have HC := Lib.hid hcc
        clear hcc
        have nz : ((0 : Int) < (nx : Int)) = True := eq_true (by have := HNx.out; omega)
        have xl : (nx : Int) ≤ 2016 := by have := HNx.out; have := HN3.out; omega
        have nw : IntKind.u64.wrap (nx : Int) = (nx : Int) := by show _ % 18446744073709551616 = _; omega
        obtain ⟨m3, hm3, hmq⟩ := Lw.maskN3 a4
        by_cases h1 : m3 = 1
        · have hmq1 : bits .and .i64 a4 3 = 1 := by rw [hmq, h1]; rfl
          clear hmq h1 hm3
          obtain ⟨i, hi, hs1, hs2⟩ := Ew.spot_of a4 nx (by have := HNx.out; omega)
          obtain ⟨x, hx, hxe⟩ := Lw.u8_some (Aes.byt T i) 16
          have xcf := HSx.out.2 i hi
          rw [Nat.zero_add] at xcf
          have xc := xcf.1
          have xf := xcf.2
          have HI := Lib.hid hi
          have il : (i : Int) < (nx : Int) := by omega
          have il2 : (i : Int) ≤ 2016 := by omega
          have iw : IntKind.i64.wrap (i : Int) = (i : Int) := IntWalk.i64_in _ (by omega)
          clear xcf hi
          go_upto_region 18 with (fail)
          clear hmq1 hs1 hs2 hxe xc xf il il2 iw nz
          have HSx := Lib.hid (HSx.out.set i x HI.out)
          have HB : Hid (Below w.heap.size w (w4.setCell ⟨g, i, none⟩ (.int .u8 (x : Nat)))) := HB.out.setCell HG2.out _
          generalize (fun i' => if i' = i then x else Aes.byt T i') = Xa at HSx
          generalize w4.setCell ⟨g, i, none⟩ (.int .u8 (x : Nat)) = w5 at HSx HB ⊢
          have hct := HSx.out.text C
          obtain ⟨A, hA⟩ : ∃ A, Lw.pieceS Xa 0 nx = A := ⟨_, rfl⟩
          have HAs : Hid (A.size = nx) := by show _ = nx; rw [← hA]; exact Lw.pieceS_size _ _ _
          have HAe := Lib.hid hA
          rw [hA] at hct
          clear hA
          obtain ⟨p, hp, hq1, hq2⟩ := Ew.cut_of a3 nx
          obtain ⟨m, hm⟩ : ∃ m, nx - p = m := ⟨_, rfl⟩
          have HP := Lib.hid hp
          have HPm : Hid (p + m = nx) := by show p + m = nx; omega
          have HPf : Hid (p ≤ C ∧ m ≤ C - p ∧ (m = 0 ∨ (if C = p then some (⟨g, 0, none⟩ : Addr) else some ⟨g, p, none⟩) = some ⟨g, p, none⟩)) := by
            refine (show _ ∧ _ ∧ (_ ∨ _) from ⟨by have := HPm.out; have := HC.out; omega, by have := HPm.out; have := HC.out; omega, ?_⟩)
            by_cases hc : C = p
            · exact .inl (by have := HPm.out; have := HC.out; omega)
            · exact .inr (if_neg hc)
          have HO := Lib.hid (fun u => Ed.open_any z K N ⟨#[97, 97, 100]⟩ A u (by have := HAs.out; have := HNx.out; have := HN3.out; omega))
          have HCa := Lib.hid (Ew.o8_cases z K N ⟨#[97, 97, 100]⟩ A)
          have HOI : Hid (∀ (u : World) (p2 : Option Addr) (c1 c2 : Nat), Ew.Seg u g 0 nx Xa → (p ≤ c1 ∧ m ≤ c2 ∧ (m = 0 ∨ p2 = some ⟨g, p, none⟩)) → Calls Try.prog 12 #[.int .i64 z, .string K, .string N, .string ⟨#[97, 97, 100]⟩, .slice (some ⟨g, 0, none⟩) p c1, .slice p2 m c2] u fun e w' =>
              e = .returned (.tuple #[.int .i64 ((Ad.o8S z K N ⟨#[97, 97, 100]⟩ A).size : Nat), .int .i64 (Ad.o8E z K N ⟨#[97, 97, 100]⟩ A)]) ∧ Pd.But g u w' ∧ ∃ Y, Ew.Seg w' g 0 nx Y ∧ Lw.pieceS Y 0 nx = Ad.o8X z K N ⟨#[97, 97, 100]⟩ A) := fun u p2 c1 c2 hs hp => by
            have h := Ed.openIn_any z K N ⟨#[97, 97, 100]⟩ g 0 p m nx c1 c2 (some ⟨g, 0, none⟩) p2 Xa u hs (.inr rfl) (by rw [Nat.zero_add]; exact hp.2.2) HPm.out (by have := HNx.out; have := HN3.out; omega) hp.1 hp.2.1
            rw [HAe.out] at h
            exact h
          generalize Ad.o8S z K N ⟨#[97, 97, 100]⟩ A = P at HOI HO HCa
          generalize Ad.o8E z K N ⟨#[97, 97, 100]⟩ A = E at HOI HO HCa
          generalize Ad.o8X z K N ⟨#[97, 97, 100]⟩ A = V at HOI HCa
          obtain ⟨np, hnp⟩ : ∃ np, P.size = np := ⟨_, rfl⟩
          rw [hnp] at HOI HCa
          rw [HAs.out] at HCa
          have HNp := Lib.hid hnp
          clear hnp hp
          go_wp2_with (go_at_call 15; fail)
          refine (HO.out _).mono ?_
          rintro e u1 ⟨rfl, hb⟩
          have HSx := Lib.hid (HSx.out.on hb)
          have HB := Lib.hid (Lw.go_on HB.out hb)
          clear hb HO hct
          have hd : nx + 1 < 2018 := by omega
          have hw : IntKind.u64.wrap ((nx : Int) + 1) = (nx : Int) + 1 := by show _ % 18446744073709551616 = _; omega
          have hpl : (p : Int) ≤ 2016 := by have := HP.out; omega
          have hpi : IntKind.i64.wrap (p : Int) = (p : Int) := IntWalk.i64_in _ (by omega)
          go_upto_region 21 with (fail)
          clear hq1 hq2 hd hw hpi
          have d1 : (p : Int) ≤ (C : Int) := by have := HP.out; omega
          have d3 : (p : Int) ≤ (nx : Int) := by have := HP.out; omega
          have d6 : (nx : Int) - (p : Int) = (m : Int) := by have := HPm.out; omega
          have hSd := HSx.out.drew
          have HBd : Hid (Below w.heap.size w u1.drew) := HB.out.drew
          clear HB HSx
          refine wp_region_any (by kernel_rfl) ?_
          change wpAny _ _ _ _ _ _ _ u1.drew
          generalize u1.drew = ve at hSd HBd ⊢
          refine Lw.take_to (i := 0) (some 127) (.int .i64 z) rfl rfl (by kernel_rfl) (by kernel_rfl) (by kernel_rfl) (fun _ _ _ h => h) (Or.inl ⟨by rfl, fun w => by go_simp⟩) ?_
          refine Lw.take_to (i := 1) (some 128) (.string K) rfl rfl (by kernel_rfl) (by kernel_rfl) (by kernel_rfl) (fun _ _ _ h => h) (Or.inl ⟨by rfl, fun w => by go_simp⟩) ?_
          refine Lw.take_to (i := 2) (some 129) (.string N) rfl rfl (by kernel_rfl) (by kernel_rfl) (by kernel_rfl) (fun _ _ _ h => h) (Or.inl ⟨by rfl, fun w => by go_simp⟩) ?_
          refine Lw.take_to (i := 3) (some 130) (.slice (some ⟨g, 0, none⟩) nx C) rfl rfl (by kernel_rfl) (by kernel_rfl) (by kernel_rfl) (fun _ _ _ h => h) (Or.inl ⟨by rfl, fun w => by go_simp⟩) ?_
          refine Lw.take_to (i := 4) (some 131) (.int .i64 (p : Int)) rfl rfl (by kernel_rfl) (by kernel_rfl) (by kernel_rfl) (fun _ _ _ h => h) (Or.inl ⟨by rfl, fun w => by go_simp⟩) ?_
          refine Lw.take_to (i := 5) (some 132) (.slice (some ⟨g, 0, none⟩) p C) rfl rfl (by kernel_rfl) (by kernel_rfl) (by kernel_rfl) (fun _ _ _ h => h) (Or.inl ⟨by rfl, fun w => by go_simp⟩) ?_
          refine Lw.take_to (i := 6) (some 133) (.slice (some ⟨g, 0, none⟩) nx C) rfl rfl (by kernel_rfl) (by kernel_rfl) (by kernel_rfl) (fun _ _ _ h => h) (Or.inl ⟨by rfl, fun w => by go_simp⟩) ?_
          refine Lw.take_to (i := 7) (some 134) (.int .i64 (p : Int)) rfl rfl (by kernel_rfl) (by kernel_rfl) (by kernel_rfl) (fun _ _ _ h => h) (Or.inl ⟨by rfl, fun w => by go_simp⟩) ?_
          refine Lw.take_to (i := 8) (some 135) (.slice (if C = p then some ⟨g, 0, none⟩ else some ⟨g, p, none⟩) m (C - p)) rfl rfl (by kernel_rfl) (by kernel_rfl) (by kernel_rfl) (fun _ _ _ h => h) (Or.inl ⟨by rfl, fun w => by go_simp⟩) ?_
          simp only [Act.put, List.setIfInBounds_toArray, List.set_cons_zero, List.set_cons_succ]
          refine wpAny_ready (rs := [9]) (by kernel_rfl) (by simp) ?_
          refine Rt.ready_callTo (some 136) rfl rfl rfl 12 _ _ rfl (fun _ _ => by go_simp) #[.int .i64 z, .string K, .string N, .string ⟨#[97, 97, 100]⟩, .slice (some ⟨g, 0, none⟩) p C, .slice (if C = p then some ⟨g, 0, none⟩ else some ⟨g, p, none⟩) m (C - p)] (by kernel_rfl) ?_ AllReady.nil
          refine (HOI.out _ _ _ _ hSd HPf.out).mono ?_
          rintro e u2 ⟨rfl, hbut, Y, hY, hYt⟩
          refine ⟨_, rfl, ?_⟩
          simp only [Act.put, List.setIfInBounds_toArray, List.set_cons_zero, List.set_cons_succ]
          refine Lw.take_to (i := 10) (some 126) (.tuple #[.int .i64 (np : Nat), .int .i64 E]) rfl rfl (by kernel_rfl) (by kernel_rfl) (by kernel_rfl) (fun _ _ _ h => h) (Or.inl ⟨by rfl, fun w => by go_simp⟩) ?_
          refine Lw.take_to (i := 11) (some 137) (.int .i64 (np : Nat)) rfl rfl (by kernel_rfl) (by kernel_rfl) (by kernel_rfl) (fun _ _ _ h => h) (Or.inl ⟨by rfl, fun w => by go_simp⟩) ?_
          refine Lw.take_to (i := 12) (some 138) (.int .i64 E) rfl rfl (by kernel_rfl) (by kernel_rfl) (by kernel_rfl) (fun _ _ _ h => h) (Or.inl ⟨by rfl, fun w => by go_simp⟩) ?_
          refine Lw.take_to (i := 13) (some 27) (.int .i64 (np : Nat)) rfl rfl (by kernel_rfl) (by kernel_rfl) (by kernel_rfl) (fun _ _ _ h => h) (Or.inl ⟨by rfl, fun w => by go_simp⟩) ?_
          refine Lw.take_to (i := 14) (some 28) (.int .i64 E) rfl rfl (by kernel_rfl) (by kernel_rfl) (by kernel_rfl) (fun _ _ _ h => h) (Or.inl ⟨by rfl, fun w => by go_simp⟩) ?_
          simp only [Act.put, List.setIfInBounds_toArray, List.set_cons_zero, List.set_cons_succ]
          refine wpAny_done (by kernel_rfl) ?_ _
          generalize (if C = p then some (⟨g, 0, none⟩ : Addr) else some ⟨g, p, none⟩) = ppve
          have HB : Hid (Below w.heap.size w u2) := hbut.below HBd.out HG2.out HBd.out.size
          clear hbut HBd hSd HOI HPf
          have hnp := HNp.out
          rcases HCa.out with ⟨rfl, hV, hP⟩ | ⟨hE, rfl, rfl⟩
          · have hY' := Lib.hid fun y => (hY.on (Lw.below_drewN (Below.refl u2.heap.size u2) y)).parts HNp.out HAs.out (by omega) (hYt.trans hV) C (C - np)
            have np1 : (np : Int) ≤ (nx : Int) := by omega
            have np2 : (np : Int) ≤ (C : Int) := by omega
            have np3 : (C = np) = False := eq_false (by have := HC.out; omega)
            have np4 : (nx : Int) - (np : Int) = ((nx - np : Nat) : Int) := by omega
            have has := HAs.out
            clear hV hYt hY
            go_upto_region 26 with (go_at_call 11; refine (Lw.num_same _ _).mono ?_; rintro e u2 ⟨rfl, rfl⟩)
            have hc3 := fun y => (hY'.out y).1
            have hc4 := fun y => (hY'.out y).2
            clear hY'
            go_quiet (fail)
            clear hc3 hc4
            go_wp2_with (fail)
            go_ret
            exact ⟨rfl, Lw.below_drewN HB.out nq⟩
          · have hct := hY.text C
            rw [hYt] at hct
            clear hYt hY
            have np0 : np = 0 := hnp.symm.trans rfl
            rcases hE with rfl | rfl
            · go_wp2_with (go_at_call 11; refine (Lw.num_same _ _).mono ?_; rintro e u2 ⟨rfl, rfl⟩)
              go_ret
              exact ⟨rfl, HB.out⟩
            · go_wp2_with (go_at_call 11; refine (Lw.num_same _ _).mono ?_; rintro e u2 ⟨rfl, rfl⟩)
              go_ret
              exact ⟨rfl, HB.out⟩
        · have hmq1 : (bits .and .i64 a4 3 = 1) = False := eq_false (by rw [hmq]; omega)
          clear hmq h1 hm3
          generalize Aes.byt T = Xa at HSx
          go_upto_region 18 with (fail)
          clear hmq1 nz
          generalize w4 = w5 at HSx HB ⊢
          have hct := HSx.out.text C
          obtain ⟨A, hA⟩ : ∃ A, Lw.pieceS Xa 0 nx = A := ⟨_, rfl⟩
          have HAs : Hid (A.size = nx) := by show _ = nx; rw [← hA]; exact Lw.pieceS_size _ _ _
          have HAe := Lib.hid hA
          rw [hA] at hct
          clear hA
          obtain ⟨p, hp, hq1, hq2⟩ := Ew.cut_of a3 nx
          obtain ⟨m, hm⟩ : ∃ m, nx - p = m := ⟨_, rfl⟩
          have HP := Lib.hid hp
          have HPm : Hid (p + m = nx) := by show p + m = nx; omega
          have HPf : Hid (p ≤ C ∧ m ≤ C - p ∧ (m = 0 ∨ (if C = p then some (⟨g, 0, none⟩ : Addr) else some ⟨g, p, none⟩) = some ⟨g, p, none⟩)) := by
            refine (show _ ∧ _ ∧ (_ ∨ _) from ⟨by have := HPm.out; have := HC.out; omega, by have := HPm.out; have := HC.out; omega, ?_⟩)
            by_cases hc : C = p
            · exact .inl (by have := HPm.out; have := HC.out; omega)
            · exact .inr (if_neg hc)
          have HO := Lib.hid (fun u => Ed.open_any z K N ⟨#[97, 97, 100]⟩ A u (by have := HAs.out; have := HNx.out; have := HN3.out; omega))
          have HCa := Lib.hid (Ew.o8_cases z K N ⟨#[97, 97, 100]⟩ A)
          have HOI : Hid (∀ (u : World) (p2 : Option Addr) (c1 c2 : Nat), Ew.Seg u g 0 nx Xa → (p ≤ c1 ∧ m ≤ c2 ∧ (m = 0 ∨ p2 = some ⟨g, p, none⟩)) → Calls Try.prog 12 #[.int .i64 z, .string K, .string N, .string ⟨#[97, 97, 100]⟩, .slice (some ⟨g, 0, none⟩) p c1, .slice p2 m c2] u fun e w' =>
              e = .returned (.tuple #[.int .i64 ((Ad.o8S z K N ⟨#[97, 97, 100]⟩ A).size : Nat), .int .i64 (Ad.o8E z K N ⟨#[97, 97, 100]⟩ A)]) ∧ Pd.But g u w' ∧ ∃ Y, Ew.Seg w' g 0 nx Y ∧ Lw.pieceS Y 0 nx = Ad.o8X z K N ⟨#[97, 97, 100]⟩ A) := fun u p2 c1 c2 hs hp => by
            have h := Ed.openIn_any z K N ⟨#[97, 97, 100]⟩ g 0 p m nx c1 c2 (some ⟨g, 0, none⟩) p2 Xa u hs (.inr rfl) (by rw [Nat.zero_add]; exact hp.2.2) HPm.out (by have := HNx.out; have := HN3.out; omega) hp.1 hp.2.1
            rw [HAe.out] at h
            exact h
          generalize Ad.o8S z K N ⟨#[97, 97, 100]⟩ A = P at HOI HO HCa
          generalize Ad.o8E z K N ⟨#[97, 97, 100]⟩ A = E at HOI HO HCa
          generalize Ad.o8X z K N ⟨#[97, 97, 100]⟩ A = V at HOI HCa
          obtain ⟨np, hnp⟩ : ∃ np, P.size = np := ⟨_, rfl⟩
          rw [hnp] at HOI HCa
          rw [HAs.out] at HCa
          have HNp := Lib.hid hnp
          clear hnp hp
          go_wp2_with (go_at_call 15; fail)
          refine (HO.out _).mono ?_
          rintro e u1 ⟨rfl, hb⟩
          have HSx := Lib.hid (HSx.out.on hb)
          have HB := Lib.hid (Lw.go_on HB.out hb)
          clear hb HO hct
          have hd : nx + 1 < 2018 := by omega
          have hw : IntKind.u64.wrap ((nx : Int) + 1) = (nx : Int) + 1 := by show _ % 18446744073709551616 = _; omega
          have hpl : (p : Int) ≤ 2016 := by have := HP.out; omega
          have hpi : IntKind.i64.wrap (p : Int) = (p : Int) := IntWalk.i64_in _ (by omega)
          go_upto_region 21 with (fail)
          clear hq1 hq2 hd hw hpi
          have d1 : (p : Int) ≤ (C : Int) := by have := HP.out; omega
          have d3 : (p : Int) ≤ (nx : Int) := by have := HP.out; omega
          have d6 : (nx : Int) - (p : Int) = (m : Int) := by have := HPm.out; omega
          have hSd := HSx.out.drew
          have HBd : Hid (Below w.heap.size w u1.drew) := HB.out.drew
          clear HB HSx
          refine wp_region_any (by kernel_rfl) ?_
          change wpAny _ _ _ _ _ _ _ u1.drew
          generalize u1.drew = ve at hSd HBd ⊢
          refine Lw.take_to (i := 0) (some 127) (.int .i64 z) rfl rfl (by kernel_rfl) (by kernel_rfl) (by kernel_rfl) (fun _ _ _ h => h) (Or.inl ⟨by rfl, fun w => by go_simp⟩) ?_
          refine Lw.take_to (i := 1) (some 128) (.string K) rfl rfl (by kernel_rfl) (by kernel_rfl) (by kernel_rfl) (fun _ _ _ h => h) (Or.inl ⟨by rfl, fun w => by go_simp⟩) ?_
          refine Lw.take_to (i := 2) (some 129) (.string N) rfl rfl (by kernel_rfl) (by kernel_rfl) (by kernel_rfl) (fun _ _ _ h => h) (Or.inl ⟨by rfl, fun w => by go_simp⟩) ?_
          refine Lw.take_to (i := 3) (some 130) (.slice (some ⟨g, 0, none⟩) nx C) rfl rfl (by kernel_rfl) (by kernel_rfl) (by kernel_rfl) (fun _ _ _ h => h) (Or.inl ⟨by rfl, fun w => by go_simp⟩) ?_
          refine Lw.take_to (i := 4) (some 131) (.int .i64 (p : Int)) rfl rfl (by kernel_rfl) (by kernel_rfl) (by kernel_rfl) (fun _ _ _ h => h) (Or.inl ⟨by rfl, fun w => by go_simp⟩) ?_
          refine Lw.take_to (i := 5) (some 132) (.slice (some ⟨g, 0, none⟩) p C) rfl rfl (by kernel_rfl) (by kernel_rfl) (by kernel_rfl) (fun _ _ _ h => h) (Or.inl ⟨by rfl, fun w => by go_simp⟩) ?_
          refine Lw.take_to (i := 6) (some 133) (.slice (some ⟨g, 0, none⟩) nx C) rfl rfl (by kernel_rfl) (by kernel_rfl) (by kernel_rfl) (fun _ _ _ h => h) (Or.inl ⟨by rfl, fun w => by go_simp⟩) ?_
          refine Lw.take_to (i := 7) (some 134) (.int .i64 (p : Int)) rfl rfl (by kernel_rfl) (by kernel_rfl) (by kernel_rfl) (fun _ _ _ h => h) (Or.inl ⟨by rfl, fun w => by go_simp⟩) ?_
          refine Lw.take_to (i := 8) (some 135) (.slice (if C = p then some ⟨g, 0, none⟩ else some ⟨g, p, none⟩) m (C - p)) rfl rfl (by kernel_rfl) (by kernel_rfl) (by kernel_rfl) (fun _ _ _ h => h) (Or.inl ⟨by rfl, fun w => by go_simp⟩) ?_
          simp only [Act.put, List.setIfInBounds_toArray, List.set_cons_zero, List.set_cons_succ]
          refine wpAny_ready (rs := [9]) (by kernel_rfl) (by simp) ?_
          refine Rt.ready_callTo (some 136) rfl rfl rfl 12 _ _ rfl (fun _ _ => by go_simp) #[.int .i64 z, .string K, .string N, .string ⟨#[97, 97, 100]⟩, .slice (some ⟨g, 0, none⟩) p C, .slice (if C = p then some ⟨g, 0, none⟩ else some ⟨g, p, none⟩) m (C - p)] (by kernel_rfl) ?_ AllReady.nil
          refine (HOI.out _ _ _ _ hSd HPf.out).mono ?_
          rintro e u2 ⟨rfl, hbut, Y, hY, hYt⟩
          refine ⟨_, rfl, ?_⟩
          simp only [Act.put, List.setIfInBounds_toArray, List.set_cons_zero, List.set_cons_succ]
          refine Lw.take_to (i := 10) (some 126) (.tuple #[.int .i64 (np : Nat), .int .i64 E]) rfl rfl (by kernel_rfl) (by kernel_rfl) (by kernel_rfl) (fun _ _ _ h => h) (Or.inl ⟨by rfl, fun w => by go_simp⟩) ?_
          refine Lw.take_to (i := 11) (some 137) (.int .i64 (np : Nat)) rfl rfl (by kernel_rfl) (by kernel_rfl) (by kernel_rfl) (fun _ _ _ h => h) (Or.inl ⟨by rfl, fun w => by go_simp⟩) ?_
          refine Lw.take_to (i := 12) (some 138) (.int .i64 E) rfl rfl (by kernel_rfl) (by kernel_rfl) (by kernel_rfl) (fun _ _ _ h => h) (Or.inl ⟨by rfl, fun w => by go_simp⟩) ?_
          refine Lw.take_to (i := 13) (some 27) (.int .i64 (np : Nat)) rfl rfl (by kernel_rfl) (by kernel_rfl) (by kernel_rfl) (fun _ _ _ h => h) (Or.inl ⟨by rfl, fun w => by go_simp⟩) ?_
          refine Lw.take_to (i := 14) (some 28) (.int .i64 E) rfl rfl (by kernel_rfl) (by kernel_rfl) (by kernel_rfl) (fun _ _ _ h => h) (Or.inl ⟨by rfl, fun w => by go_simp⟩) ?_
          simp only [Act.put, List.setIfInBounds_toArray, List.set_cons_zero, List.set_cons_succ]
          refine wpAny_done (by kernel_rfl) ?_ _
          generalize (if C = p then some (⟨g, 0, none⟩ : Addr) else some ⟨g, p, none⟩) = ppve
          have HB : Hid (Below w.heap.size w u2) := hbut.below HBd.out HG2.out HBd.out.size
          clear hbut HBd hSd HOI HPf
          have hnp := HNp.out
          rcases HCa.out with ⟨rfl, hV, hP⟩ | ⟨hE, rfl, rfl⟩
          · have hY' := Lib.hid fun y => (hY.on (Lw.below_drewN (Below.refl u2.heap.size u2) y)).parts HNp.out HAs.out (by omega) (hYt.trans hV) C (C - np)
            have np1 : (np : Int) ≤ (nx : Int) := by omega
            have np2 : (np : Int) ≤ (C : Int) := by omega
            have np3 : (C = np) = False := eq_false (by have := HC.out; omega)
            have np4 : (nx : Int) - (np : Int) = ((nx - np : Nat) : Int) := by omega
            have has := HAs.out
            clear hV hYt hY
            go_upto_region 26 with (go_at_call 11; refine (Lw.num_same _ _).mono ?_; rintro e u2 ⟨rfl, rfl⟩)
            have hc3 := fun y => (hY'.out y).1
            have hc4 := fun y => (hY'.out y).2
            clear hY'
            go_quiet (fail)
            clear hc3 hc4
            go_wp2_with (fail)
            go_ret
            exact ⟨rfl, Lw.below_drewN HB.out nq⟩
          · have hct := hY.text C
            rw [hYt] at hct
            clear hYt hY
            have np0 : np = 0 := hnp.symm.trans rfl
            rcases hE with rfl | rfl
            · go_wp2_with (go_at_call 11; refine (Lw.num_same _ _).mono ?_; rintro e u2 ⟨rfl, rfl⟩)
              go_ret
              exact ⟨rfl, HB.out⟩
            · go_wp2_with (go_at_call 11; refine (Lw.num_same _ _).mono ?_; rintro e u2 ⟨rfl, rfl⟩)
              go_ret
              exact ⟨rfl, HB.out⟩

set_option maxRecDepth 100000 in
theorem lifted (os : Os) (started : os.Started) (H : Type) (enc : TypeId × Value → H) :
    ReturnsInHanded {} Try.checked os 6 .any (Rows.aeadTwinsSpec.pre6 enc Try.prog Try.f6 Rows.aeadTwinsRow.domain false) (Rows.aeadTwinsSpec.post enc Try.prog Try.f6 false true false false) := by
  refine returnsInHanded_of_change (C := Try.checked) own started (by kernel_rfl) Try.func6
    (ChangeSpec.witness6 (enc := enc) (C := Try.checked) false ⟨#[], #[.int .i64 0, .string ByteArray.empty, .string ByteArray.empty, .int .i64 0, .int .i64 0], []⟩ 8 (by kernel_rfl) (by kernel_rfl) (by kernel_rfl) (by kernel_rfl)) ?_
  intro W base args ds gs before hval0 hW hcnd _
  have hval : ∀ (j : Nat) t v, Try.f6.params[j]? = some t → args[j]? = some v → Value.okWide Try.prog W .any base t v := hval0
  have hW' := hW
  obtain ⟨p, q, hA0, hV, rfl, hfz, hnd⟩ := hW
  have hA : DataW.TrodAll enc Try.prog W 0 (fun _ => true) true Try.f6.params.toList args.toList ds p := hA0
  rw [Try.params6] at hA hval
  obtain ⟨v0, vs0, d0, ds0, p0, q0, hargs, rfl, rfl, h0, r0⟩ := trodAll_cons hA
  obtain ⟨v1, vs1, d1, ds1, p1, q1, rfl, rfl, rfl, h1, r1⟩ := trodAll_cons r0
  obtain ⟨v2, vs2, d2, ds2, p2, q2, rfl, rfl, rfl, h2, r2⟩ := trodAll_cons r1
  obtain ⟨v3, vs3, d3, ds3, p3, q3, rfl, rfl, rfl, h3, r3⟩ := trodAll_cons r2
  obtain ⟨v4, vs4, d4, ds4, p4, q4, rfl, rfl, rfl, h4, r4⟩ := trodAll_cons r3
  obtain ⟨rfl, rfl, rfl⟩ := trodAll_nil r4
  obtain rfl : args = #[v0, v1, v2, v3, v4] := by cases args; simp_all
  obtain ⟨rfl, rfl⟩ := trodVars_none hV
  obtain ⟨a0, rfl, rfl, rfl, w0⟩ := open_int Try.underlying3 (hval 0 3 v0 rfl rfl) h0
  obtain ⟨a1, rfl, rfl, rfl, w1⟩ := open_string Try.underlying9 (hval 1 9 v1 rfl rfl) h1
  obtain ⟨a2, rfl, rfl, rfl, w2⟩ := open_string Try.underlying9 (hval 2 9 v2 rfl rfl) h2
  obtain ⟨a3, rfl, rfl, rfl, w3⟩ := open_int Try.underlying3 (hval 3 3 v3 rfl rfl) h3
  obtain ⟨a4, rfl, rfl, rfl, w4⟩ := open_int Try.underlying3 (hval 4 3 v4 rfl rfl) h4
  clear hA0 hval0
  simp only [List.append_nil] at hW'
  refine (walk a0 a1 a2 a3 a4 w0 w1 w2 w3 w4 W).mono fun e W' ⟨he, bel⟩ => ?_
  subst he
  exact ⟨_, rfl, _, _, _, [], [], [], hW', trodAll_mk1 (shut_bool Try.underlying4 _), (trodAll_cons_mk (shut_int Try.underlying3 w0) (trodAll_cons_mk (shut_string Try.underlying9 w1) (trodAll_cons_mk (shut_string Try.underlying9 w2) (trodAll_cons_mk (shut_int Try.underlying3 w3) (trodAll_cons_mk (shut_int Try.underlying3 w4) trodAll_mk0))))), rfl, bel.frame _, fun h => by cases h⟩

theorem over : Rows.aeadTwinsRow.holds Try.pinned (OpenSpec.ofChange Rows.aeadTwinsSpec) :=
  OpenClaim.holds_of_wide 6 Try.f6 rfl rfl rfl rfl rfl rfl rfl ⟨rfl, rfl, rfl, rfl, rfl⟩ rfl rfl rfl rfl rfl (by kernel_rfl) Try.func6 (by kernel_rfl)
    (of_decide_eq_true (by kernel_rfl)) (by unfold Func.isWrapper; first | (rw [if_pos (by decide +kernel)]; kernel_rfl) | (rw [if_neg (by decide +kernel)]; exact ⟨rfl, rfl⟩))
    (fun os started H enc _ => lifted os started H enc)

theorem proved : Rows.AeadTwinsSaid :=
  over
#print axioms proved
end Go.Proofs.Ytljhenjbjondkaa.aeadTwins
