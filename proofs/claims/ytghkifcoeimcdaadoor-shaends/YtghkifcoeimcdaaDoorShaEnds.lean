/-
  Of a text of any bytes, of up to 255 of them, written byte by byte to a Hash of package sha, Sum and the Hash's Sum are the document's digest, for both kinds.
-/
import Derived.Test.YtghkifcoeimcdaaDoorImT
import Derived.Test.YtghkifcoeimcdaaDoorRows
import Derived.WalkKit
import Derived.ProofKit
import Derived.OpenShut
import Derived.ShutString
import Derived.Test.YtghkifcoeimcdaaDoorImW
import Derived.Test.YtghkifcoeimcdaaDoorTie
import Derived.Test.YtghkifcoeimcdaaDoorCards
import Derived.SevenTiedAt
import Derived.SizedLaws
import Derived.Stop.Joined
import Derived.LaidMore
import Derived.Below
import Derived.ChangeOld
namespace Go.Proofs.YtghkifcoeimcdaaDoor.shaEnds
open Go.ChangeShapes Go.WideShapes Go.ChangeAt Go.RowKit
open Go.Proofs.YtghkifcoeimcdaaDoor
open Go.ChangeMaps (open_string shut_string)
set_option linter.unusedVariables false

theorem own : ownKnob Tryd.prog.godebug = none := by kernel_rfl

set_option maxHeartbeats 4000000 in
set_option maxRecDepth 10000 in
theorem walk (a0 : Int) (a1 : Int) (w0 : (Lit.int .i64 a0).wf = true) (w1 : (Lit.int .i64 a1).wf = true) (w : World) (hT : Im.Tab w) :
    Calls Tryd.prog 5 #[.int .i64 a0, .int .i64 a1] w fun e w' => e = .returned (.bool true) ∧ Below w.heap.size w w' := by
  have HT := Lib.hid hT
  have HB : Hid (Below w.heap.size w w) := Below.refl _ _
  obtain ⟨K, hK, hK2⟩ : ∃ K : Nat, bits .and .i64 a0 255 = (K : Int) ∧ K ≤ 255 := ⟨(a0 % 256).toNat, by rw [Im.mask255]; omega, by omega⟩
  have HK := Lib.hid hK2
  obtain ⟨M, hM, hMc, hmk⟩ := Be.zeros K (by omega)
  have HM : Hid (∀ u : World, (u.alloc (.cells M 5)).rowIs u.heap.size 5 K (fun i => .int .u8 (((fun _ => 0 : Nat → Nat) i : Nat) : Int))) := fun u => Sha.rowIs_of u M 5 K _ hM hMc
  clear hT hK2 hM hMc
  go_enter Tryd.func5, Tryd.ntmps5
  go_upto_region 5 with (go_at_call 12; refine (Im.awake_any _ (HT.out.below HB.out HT.out.pos)).mono ?_; rintro e u ⟨rfl, hb⟩; have HB := Lib.hid (Im.go_on HB.out hb); clear hb)
  have hNw : Hid (w.heap.size ≤ u.heap.size) := HB.out.size
  have HRow := Lib.hid (HM.out u)
  have HB : Hid (Below w.heap.size w (u.alloc (.cells M 5))) := HB.out.alloc HB.out.size _
  obtain ⟨N, hN⟩ : ∃ N, u.heap.size = N := ⟨_, rfl⟩
  rw [hN] at HRow hNw ⊢
  clear hmk HM
  generalize u.alloc (.cells M 5) = wA at HB HRow ⊢
  go_wp2_with (fail)
  go_loopw [7] (fun i wx => ∃ (j : Nat) (c : Nat → Nat), Hid (j ≤ K) ∧ i = .int .i64 j ∧ Hid (∀ i, c i < 256) ∧ Hid (Below w.heap.size w wx) ∧ Hid (wx.rowIs N 5 K (fun i => .int .u8 (c i : Nat)))) (fun i _ => K - (intOf i).toNat)
  case atStart => exact ⟨0, fun _ => 0, Nat.zero_le K, rfl, fun _ => by show 0 < 256; decide, HB, HRow⟩
  case round =>
    clear HB HRow
    obtain ⟨j, c, hj, rfl, hc, HB, HRow⟩ := hrel
    by_cases hlt : j < K
    · have jl : ((j : Int) < (K : Int)) = True := eq_true (by omega)
      have jl2 : (j : Int) < (K : Int) := by omega
      have cj := HRow.out.cell (i := j) hlt
      have fj := HRow.out.frozen j
      have HJ := Lib.hid hlt
      clear hlt
      go_wp2_with (fail)
      have jw : wrap64 ((j : Int) + 1) = ((j + 1 : Nat) : Int) := by unfold wrap64; have := HJ.out; have := HK.out; omega
      obtain ⟨y, hy, hy2⟩ : ∃ y : Nat, wrap64 (a1 + wrap64 (↑j * a1) / 8) % 256 = (y : Int) ∧ y < 256 := ⟨(wrap64 (a1 + wrap64 (↑j * a1) / 8) % 256).toNat, by omega, by omega⟩
      rw [hy, jw]
      refine ⟨⟨j + 1, fun i => if i = j then y else c i, HJ.out, rfl, fun i => ?_, HB.out.setCell hNw.out _, (HRow.out.set j _).congr fun i _ => ?_⟩, by have := HJ.out; simp [intOf]; omega⟩
      · show (if i = j then y else c i) < 256
        split
        · exact hy2
        · exact hc.out i
      · show (if i = j then _ else _) = Value.int .u8 ((if i = j then y else c i : Nat) : Int)
        split <;> rfl
    · have jl : ((j : Int) < (K : Int)) = False := eq_false (by omega)
      clear hlt
      obtain ⟨T, hTx⟩ : ∃ T, T = strOfNums ((List.range K).map fun i => (c i : Int)) := ⟨_, rfl⟩
      have HTx := Lib.hid hTx
      have HTz : Hid (T.size = K) := by show T.size = K; rw [hTx, strOfNums_size]; simp
      have HTs : Hid (T.size ≤ 288230376151711744) := by show T.size ≤ _; have := HTz.out; have := HK.out; omega
      clear hTx
      go_wp2_with (fail)
      go_loopw [8] (fun v wx => ∃ n : Nat, Hid (n ≤ 2) ∧ v = .int .i64 (256 + 128 * n) ∧ Hid (Below w.heap.size w wx) ∧ Hid (wx.rowIs N 5 K (fun i => .int .u8 (c i : Nat)))) (fun v _ => 600 - (intOf v).toNat)
      case atStart => exact ⟨0, by show 0 ≤ 2; decide, rfl, HB, HRow⟩
      case round =>
        clear HB HRow
        obtain ⟨n, hn, rfl, HB, HRow⟩ := hrel
        have hn3 : n = 0 ∨ n = 1 ∨ n = 2 := by have := hn.out; omega
        rcases hn3 with rfl | rfl | rfl
        · rw [show (256 : Int) + 128 * ((0 : Nat) : Int) = 256 from rfl]
          go_upto_region 15 with (first
            | (go_at_call 13; refine (Im.new2_256 _).mono ?_; rintro e u1 ⟨g, rfl, hg, hb, H0⟩; have hNg : Hid (N < g) := Nat.lt_of_lt_of_le HRow.out.lt hg.out; have hg := Lib.hid (Nat.le_trans HB.out.size hg.out); have HRow : Hid (u1.rowIs N 5 K (fun i => .int .u8 (c i : Nat))) := HRow.out.of_block (hb.block N HRow.out.lt); have HB := Lib.hid (Im.go_on HB.out hb); clear hb)
            | (go_at_call 11; refine (Im.num_same _ _).mono ?_; rintro e u3 ⟨rfl, rfl⟩))
          go_wp2_with (fail)
          go_loopw [11] (fun i wx => ∃ j : Nat, Hid (j ≤ K) ∧ i = .int .i64 j ∧ Hid (Below w.heap.size w wx) ∧ Hid (wx.rowIs N 5 K (fun i => .int .u8 (c i : Nat))) ∧ Hid (Im.Wrote wx g false (T.extract 0 j))) (fun i _ => K - (intOf i).toNat)
          case atStart => exact ⟨0, Nat.zero_le K, rfl, HB, HRow, by show Im.Wrote _ _ _ _; rw [ByteArray.extract_same]; exact H0.out⟩
          case round =>
            clear HB HRow H0
            obtain ⟨j, hj, rfl, HB, HRow, H0⟩ := hrel
            by_cases hlt : j < K
            · have jl : ((j : Int) < (K : Int)) = True := eq_true (by omega)
              have HJ := Lib.hid hlt
              have hsl := Im.slice_own wr N j 1 K (j : Int) ((j : Int) + 1) rfl (by omega) (by omega) (by omega)
              have hcv := run_convert_bytes_arg (P := Tryd.prog) wr 39 5 Tryd.underlying39 Tryd.underlying5 N j 1 (K - j) [(c j : Int)] rfl (fun i hi => by cases Nat.lt_one_iff.1 hi; exact HRow.out.cell (i := j) HJ.out) 9 Tryd.underlying9
              have hone : strOfNums [(c j : Int)] = T.extract j (j + 1) := by rw [HTx.out]; exact (Im.text_piece c K j HJ.out).symm
              rw [hone] at hcv
              clear hlt hone
              have jw0 : wrap64 ((j : Int) + 1) = (j : Int) + 1 := by unfold wrap64; have := HJ.out; have := HK.out; omega
              go_wp2_with (go_at_call 15; refine (Im.write2 false g _ _ _ H0.out (Nat.lt_of_lt_of_le HT.out.pos hg.out) (HT.out.below HB.out HT.out.pos) (by rw [ByteArray.size_extract, ByteArray.size_extract]; have := HTz.out; have := HK.out; omega)).mono ?_; rw [Im.ext_next T j (by rw [HTz.out]; exact HJ.out)]; rintro e v1 ⟨rfl, hB, H0⟩; have HRow := Lib.hid (hB.row HRow.out (Nat.ne_of_lt hNg.out)); have HB := Lib.hid (Im.go_but HB.out hg.out hB); clear hB)
              have jw : wrap64 ((j : Int) + 1) = ((j + 1 : Nat) : Int) := by unfold wrap64; have := HJ.out; have := HK.out; omega
              rw [jw]
              exact ⟨⟨j + 1, HJ.out, rfl, HB, HRow, H0⟩, by have := HJ.out; simp [intOf]; omega⟩
            · have jl : ((j : Int) < (K : Int)) = False := eq_false (by omega)
              have hjK : j = K := by have := hj.out; omega
              subst hjK
              have hTT : T.extract 0 j = T := by
                have h : T.extract 0 T.size = T := ByteArray.extract_zero_size
                rw [HTz.out] at h; exact h
              have H0 : Hid (Im.Wrote wr g false T) := by have := H0.out; rw [hTT] at this; exact this
              have hcv : ∀ V : World, Below wr.heap.size wr V → (convert 39 9 (.slice (some ⟨N, 0, none⟩) j j)).run Tryd.prog V = .ok (.string T) V := fun V hV => by
                have := run_convert_bytes_arg (P := Tryd.prog) V 39 5 Tryd.underlying39 Tryd.underlying5 N 0 j j ((List.range j).map fun i => (c i : Int)) (by simp) (fun i hi => by
                  rw [Nat.zero_add, hV.cell (p := ⟨N, i, none⟩) HRow.out.lt, HRow.out.cell (i := i) hi, List.getD_eq_getElem?_getD, List.getElem?_map, List.getElem?_range hi]; rfl) 9 Tryd.underlying9
                rw [this, HTx.out]
              have hc1 := hcv wr (Below.refl _ _)
              have HCV := Lib.hid hcv
              clear hlt hcv hTT
              go_wp2_with (first
                | (go_at_call 9; refine (Im.sum2_256 _ _ (HT.out.below HB.out HT.out.pos) HTs.out).mono ?_; rintro e u10 ⟨rfl, hb⟩; have H0 := Lib.hid (H0.out.below hb H0.out.lt); have HB := Lib.hid (Im.go_on HB.out hb); have HV := Lib.hid hb; clear hb)
                | (go_at_call 11; refine (Im.num_same _ _).mono ?_; rintro e u3 ⟨rfl, rfl⟩)
                | (go_at_call 16; refine (Im.hsum_256 g _ _ H0.out (HT.out.below HB.out HT.out.pos) HTs.out).mono ?_; rintro e u11 ⟨rfl, hb⟩; have hc2 := HCV.out u11 (Im.go_on HV.out hb); have HB := Lib.hid (Im.go_on HB.out hb); have HV := Lib.hid (Im.go_on HV.out hb); clear hb)
                | (go_at_call 17; refine (Sha.rhash_any 256 T _ HTs.out).mono ?_; rintro e u12 ⟨rfl, hb⟩; have HB := Lib.hid (Im.go_on HB.out hb); have HV := Lib.hid (Im.go_on HV.out hb); clear hb))
              exact ⟨⟨1, by show 1 ≤ 2; decide, rfl, HB, HRow.out.of_block (HV.out.block N HRow.out.lt)⟩, by decide⟩
        · rw [show (256 : Int) + 128 * ((1 : Nat) : Int) = 384 from rfl]
          go_upto_region 15 with (first
            | (go_at_call 13; refine (Im.new2_384 _).mono ?_; rintro e u1 ⟨g, rfl, hg, hb, H0⟩; have hNg : Hid (N < g) := Nat.lt_of_lt_of_le HRow.out.lt hg.out; have hg := Lib.hid (Nat.le_trans HB.out.size hg.out); have HRow : Hid (u1.rowIs N 5 K (fun i => .int .u8 (c i : Nat))) := HRow.out.of_block (hb.block N HRow.out.lt); have HB := Lib.hid (Im.go_on HB.out hb); clear hb)
            | (go_at_call 11; refine (Im.num_same _ _).mono ?_; rintro e u3 ⟨rfl, rfl⟩))
          go_wp2_with (fail)
          go_loopw [11] (fun i wx => ∃ j : Nat, Hid (j ≤ K) ∧ i = .int .i64 j ∧ Hid (Below w.heap.size w wx) ∧ Hid (wx.rowIs N 5 K (fun i => .int .u8 (c i : Nat))) ∧ Hid (Im.Wrote wx g true (T.extract 0 j))) (fun i _ => K - (intOf i).toNat)
          case atStart => exact ⟨0, Nat.zero_le K, rfl, HB, HRow, by show Im.Wrote _ _ _ _; rw [ByteArray.extract_same]; exact H0.out⟩
          case round =>
            clear HB HRow H0
            obtain ⟨j, hj, rfl, HB, HRow, H0⟩ := hrel
            by_cases hlt : j < K
            · have jl : ((j : Int) < (K : Int)) = True := eq_true (by omega)
              have HJ := Lib.hid hlt
              have hsl := Im.slice_own wr N j 1 K (j : Int) ((j : Int) + 1) rfl (by omega) (by omega) (by omega)
              have hcv := run_convert_bytes_arg (P := Tryd.prog) wr 39 5 Tryd.underlying39 Tryd.underlying5 N j 1 (K - j) [(c j : Int)] rfl (fun i hi => by cases Nat.lt_one_iff.1 hi; exact HRow.out.cell (i := j) HJ.out) 9 Tryd.underlying9
              have hone : strOfNums [(c j : Int)] = T.extract j (j + 1) := by rw [HTx.out]; exact (Im.text_piece c K j HJ.out).symm
              rw [hone] at hcv
              clear hlt hone
              have jw0 : wrap64 ((j : Int) + 1) = (j : Int) + 1 := by unfold wrap64; have := HJ.out; have := HK.out; omega
              go_wp2_with (go_at_call 15; refine (Im.write2 true g _ _ _ H0.out (Nat.lt_of_lt_of_le HT.out.pos hg.out) (HT.out.below HB.out HT.out.pos) (by rw [ByteArray.size_extract, ByteArray.size_extract]; have := HTz.out; have := HK.out; omega)).mono ?_; rw [Im.ext_next T j (by rw [HTz.out]; exact HJ.out)]; rintro e v1 ⟨rfl, hB, H0⟩; have HRow := Lib.hid (hB.row HRow.out (Nat.ne_of_lt hNg.out)); have HB := Lib.hid (Im.go_but HB.out hg.out hB); clear hB)
              have jw : wrap64 ((j : Int) + 1) = ((j + 1 : Nat) : Int) := by unfold wrap64; have := HJ.out; have := HK.out; omega
              rw [jw]
              exact ⟨⟨j + 1, HJ.out, rfl, HB, HRow, H0⟩, by have := HJ.out; simp [intOf]; omega⟩
            · have jl : ((j : Int) < (K : Int)) = False := eq_false (by omega)
              have hjK : j = K := by have := hj.out; omega
              subst hjK
              have hTT : T.extract 0 j = T := by
                have h : T.extract 0 T.size = T := ByteArray.extract_zero_size
                rw [HTz.out] at h; exact h
              have H0 : Hid (Im.Wrote wr g true T) := by have := H0.out; rw [hTT] at this; exact this
              have hcv : ∀ V : World, Below wr.heap.size wr V → (convert 39 9 (.slice (some ⟨N, 0, none⟩) j j)).run Tryd.prog V = .ok (.string T) V := fun V hV => by
                have := run_convert_bytes_arg (P := Tryd.prog) V 39 5 Tryd.underlying39 Tryd.underlying5 N 0 j j ((List.range j).map fun i => (c i : Int)) (by simp) (fun i hi => by
                  rw [Nat.zero_add, hV.cell (p := ⟨N, i, none⟩) HRow.out.lt, HRow.out.cell (i := i) hi, List.getD_eq_getElem?_getD, List.getElem?_map, List.getElem?_range hi]; rfl) 9 Tryd.underlying9
                rw [this, HTx.out]
              have hc1 := hcv wr (Below.refl _ _)
              have HCV := Lib.hid hcv
              clear hlt hcv hTT
              go_wp2_with (first
                | (go_at_call 9; refine (Im.sum2_384 _ _ (HT.out.below HB.out HT.out.pos) HTs.out).mono ?_; rintro e u10 ⟨rfl, hb⟩; have H0 := Lib.hid (H0.out.below hb H0.out.lt); have HB := Lib.hid (Im.go_on HB.out hb); have HV := Lib.hid hb; clear hb)
                | (go_at_call 11; refine (Im.num_same _ _).mono ?_; rintro e u3 ⟨rfl, rfl⟩)
                | (go_at_call 16; refine (Im.hsum_384 g _ _ H0.out (HT.out.below HB.out HT.out.pos) HTs.out).mono ?_; rintro e u11 ⟨rfl, hb⟩; have hc2 := HCV.out u11 (Im.go_on HV.out hb); have HB := Lib.hid (Im.go_on HB.out hb); have HV := Lib.hid (Im.go_on HV.out hb); clear hb)
                | (go_at_call 17; refine (Sha.rhash_any 384 T _ HTs.out).mono ?_; rintro e u12 ⟨rfl, hb⟩; have HB := Lib.hid (Im.go_on HB.out hb); have HV := Lib.hid (Im.go_on HV.out hb); clear hb))
              exact ⟨⟨2, by show 2 ≤ 2; decide, rfl, HB, HRow.out.of_block (HV.out.block N HRow.out.lt)⟩, by decide⟩
        · rw [show (256 : Int) + 128 * ((2 : Nat) : Int) = 512 from rfl]
          go_wp2_with (fail)
          go_ret
          exact ⟨rfl, HB.out⟩

set_option maxRecDepth 100000 in
theorem lifted (os : Os) (started : os.Started) (H : Type) (enc : TypeId × Value → H) :
    ReturnsInHanded {} Tryd.checked os 5 .any (fun w args => (Rows.shaEndsSpec.pre enc Tryd.prog Tryd.f5 [] false w args ∧ laidMetH Tryd.prog laid1 w) ∧ sizedMet enc Tryd.prog Tryd.f5 (OpenSpec.ofChange Rows.shaEndsSpec) false w args)
      (Rows.shaEndsSpec.post enc Tryd.prog Tryd.f5 false true false false) := by
  refine returnsInHanded_of_change_and (C := Tryd.checked) (X := fun w _ => laidMetH Tryd.prog laid1 w) (fun _ _ _ hh h => h.of_heap hh) own started (by kernel_rfl) Tryd.func5
    (ChangeSpec.witness_shaped (enc := enc) (C := Tryd.checked) (os := os) (X := fun w _ => laidMetH Tryd.prog laid1 w) false (World.doorLaid Tryd.prog 14 os) #[.int .i64 0, .int .i64 0] 8 rfl (World.shaped_of_RefB (by kernel_rfl) (by kernel_rfl)) (by kernel_rfl) (by kernel_rfl) (by kernel_rfl) (door_met os _)) ?_
  intro W base args ds gs before hval0 hW _ hsz0 hL _
  have hT := tab_of_laid hL
  have hsz : (DataW.weightsEach Tryd.prog (Tryd.f5.params.toList ++ Rows.shaEndsSpec.plain.varTypes Tryd.prog) (ds ++ gs)).all (· ≤ reachBytes) = true := hsz0
  have hval : ∀ (j : Nat) t v, Tryd.f5.params[j]? = some t → args[j]? = some v → Value.okWide Tryd.prog W .any base t v := hval0
  have hW' := hW
  obtain ⟨p, q, hA0, hV, rfl, hfz, hnd⟩ := hW
  have hA : DataW.TrodAll enc Tryd.prog W 0 (fun _ => true) true Tryd.f5.params.toList args.toList ds p := hA0
  rw [Tryd.params5] at hA hval hsz
  obtain ⟨v0, vs0, d0, ds0, p0, q0, hargs, rfl, rfl, h0, r0⟩ := trodAll_cons hA
  obtain ⟨v1, vs1, d1, ds1, p1, q1, rfl, rfl, rfl, h1, r1⟩ := trodAll_cons r0
  obtain ⟨rfl, rfl, rfl⟩ := trodAll_nil r1
  obtain rfl : args = #[v0, v1] := by cases args; simp_all
  obtain ⟨rfl, rfl⟩ := trodVars_none hV
  obtain ⟨a0, rfl, rfl, rfl, w0⟩ := open_int Tryd.underlying3 (hval 0 3 v0 rfl rfl) h0
  obtain ⟨a1, rfl, rfl, rfl, w1⟩ := open_int Tryd.underlying3 (hval 1 3 v1 rfl rfl) h1
  clear hA0 hval0
  simp only [List.append_nil] at hW'
  refine (walk a0 a1 w0 w1 W hT).mono fun e W' ⟨he, bel⟩ => ?_
  subst he
  exact ⟨_, rfl, _, _, _, [], [], [], hW', trodAll_mk1 (shut_bool Tryd.underlying4 _), (trodAll_cons_mk (shut_int Tryd.underlying3 w0) (trodAll_cons_mk (shut_int Tryd.underlying3 w1) trodAll_mk0)), rfl, bel.frame _, fun h => by cases h⟩

theorem over : Rows.shaEndsRow.holds Tryd.pinned (OpenSpec.ofChange Rows.shaEndsSpec) :=
  OpenClaim.holds_of_wide 5 Tryd.f5 rfl rfl rfl rfl rfl rfl rfl ⟨rfl, rfl, rfl, rfl, rfl⟩ rfl rfl rfl rfl rfl (by kernel_rfl) Tryd.func5 (by kernel_rfl)
    (of_decide_eq_true (by kernel_rfl)) (by unfold Func.isWrapper; first | (rw [if_pos (by decide +kernel)]; kernel_rfl) | (rw [if_neg (by decide +kernel)]; exact ⟨rfl, rfl⟩))
    (fun os started H enc _ => lifted os started H enc)

theorem card_holds : Rows.ShaEndsCardSaid :=
  Claim7.holds_tied_plain_at .later [] [.data] true (true, "b63a3a16b0215449141b4c4a12ddcade81ad673c352d47340d90069b4ac434ba") false
    over (fun _ h => by cases h) (by kernel_rfl) (fun _ h => by cases h) shaEnds_row_tie rfl ⟨rfl, rfl⟩ (by kernel_rfl) rfl
    (fun f fn hf hfn => by
      obtain rfl : f = 5 := Option.some.inj ((show Tryd.prog.funcNamed "halberd/halberdlaw2.ShaEnds" = some 5 by kernel_rfl).symm.trans hf) |>.symm
      obtain rfl : fn = Tryd.f5 := (Option.some.inj (Tryd.func5.symm.trans hfn)).symm
      exact ⟨by kernel_rfl, fun j t ht => by
        rw [Tryd.params5] at ht
        have hm : t ∈ [3] := by simpa using Array.mem_of_getElem? ht
        have hall : ([3].all fun u => !Tryd.prog.wantsStandIn u) = true := by kernel_rfl
        exact (show Tryd.prog.wantsStandIn t = false by simpa using List.all_eq_true.1 hall t hm)⟩)
    (by kernel_rfl)
#print axioms card_holds
end Go.Proofs.YtghkifcoeimcdaaDoor.shaEnds
