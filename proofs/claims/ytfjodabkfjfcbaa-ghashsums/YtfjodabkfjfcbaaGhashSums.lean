/-
  Proved: halberdlaw5.GhashSums answers true at every input: the hash of a sum of texts is the sum of their hashes. Conditions: none but the row's.
-/
import Derived.Test.YtfjodabkfjfcbaaGcW
import Derived.Test.YtfjodabkfjfcbaaRows
import Derived.WalkKit
import Derived.ProofKit
import Derived.OpenShut
import Derived.ShutString
import Derived.Below
import Derived.ChangeOld
namespace Go.Proofs.Ytfjodabkfjfcbaa.ghashSums
open Go.ChangeShapes Go.WideShapes Go.ChangeAt Go.RowKit
open Go.ChangeMaps (open_string shut_string)
set_option linter.unusedVariables false

theorem own : ownKnob Try.prog.godebug = none := by kernel_rfl

open Go.Proofs.Im (wp_region_quiet_tail)
set_option maxHeartbeats 4000000 in
set_option maxRecDepth 100000 in
theorem walk (a0 : ByteArray) (a1 : ByteArray) (a2 : ByteArray) (_w0 : a0.size ≤ maxLen) (_w1 : a1.size ≤ maxLen) (_w2 : a2.size ≤ maxLen) (w : World) :
    Calls Try.prog 5 #[.string a0, .string a1, .string a2] w fun e w' => e = .returned (.bool true) ∧ Below w.heap.size w w' := by
  have HB : Hid (Below w.heap.size w w) := Below.refl _ _
  clear _w0 _w1 _w2
  by_cases hh : a0.size = 16
  case neg =>
    have e1 : ((a0.size : Int) == 16) = false := by simp; omega
    have e2 : ((a0.size : Int) != 16) = true := by simp; omega
    clear hh
    go_enter Try.func5, Try.ntmps5
    go_wp2_with (go_at_call 16; refine (Gs.awake5_any _).mono ?_; rintro e u ⟨rfl, hb⟩; have HB := Lib.hid (Lw.go_on HB.out hb); clear hb)
    go_ret
    exact ⟨rfl, HB.out⟩
  have HH := Lib.hid hh
  obtain ⟨q, hq⟩ : ∃ q : Nat, q = min (min a1.size a2.size) 320 := ⟨_, rfl⟩
  have hmin : ∀ W, (Builtin.min_ #[3, 3, 3] 3 #[.int .i64 (a1.size : Int), .int .i64 (a2.size : Int), .int .i64 320]).run Try.prog W = .ok (.int .i64 (q : Int)) W := fun W => by rw [hq]; exact Lw.min3 W _ _ _ _ 320
  obtain ⟨k, hk⟩ : ∃ k : Nat, k = q / 16 * 16 := ⟨_, rfl⟩
  have HK1 : Hid (k ≤ a1.size) := by show k ≤ _; omega
  have HK2 : Hid (k ≤ a2.size) := by show k ≤ _; omega
  have HKm : Hid (k ≤ 320) := by show k ≤ _; omega
  have HKd : Hid (k % 16 = 0) := by show k % 16 = 0; omega
  have HQ : Hid (q / 16 * 16 = k ∧ q ≤ 320) := by show _ ∧ _; omega
  obtain ⟨M, hM, hMc, hmk⟩ := Lw.zeros k (by omega)
  have HM := Lib.hid hM
  have HMc := Lib.hid hMc
  clear hM hMc hk hq
  go_enter Try.func5, Try.ntmps5
  go_wp2_with (fail)
  refine (Gs.awake5_any _).mono ?_
  rintro e u ⟨rfl, hb⟩
  have HB := Lib.hid (Lw.go_on HB.out hb)
  clear hb
  go_upto_region 5 with (fail)
  apply wp_region_lit
  refine Lw.wpList_val rfl (.string a1) u (by go_simp) ?_
  refine Lw.wpList_val rfl (.int .i64 (a1.size : Int)) u (by go_simp) ?_
  refine Lw.wpList_val rfl (.string a2) u (by go_simp) ?_
  refine Lw.wpList_val rfl (.int .i64 (a2.size : Int)) u (by go_simp) ?_
  refine Lw.wpList_val rfl (.int .i64 (q : Int)) u (by go_simp) ?_
  refine Lw.wpList_val rfl (.int .i64 ((q / 16 : Nat) : Int)) u (by
    have e1 : (q : Int).tdiv 16 = ((q / 16 : Nat) : Int) := by rw [Int.tdiv_eq_ediv_of_nonneg (by omega)]; omega
    have e2 : IntKind.i64.wrap ((q / 16 : Nat) : Int) = ((q / 16 : Nat) : Int) := IntWalk.i64_in _ (by have := HQ.out; omega)
    generalize q / 16 = p at e1 e2
    go_simp) ?_
  refine Lw.wpList_val rfl (.int .i64 (k : Int)) u (by
    have e1 : IntKind.i64.wrap (((q / 16 : Nat) : Int) * 16) = (k : Int) := by rw [IntWalk.i64_in _ (by have := HQ.out; omega)]; have := HQ.out; omega
    generalize q / 16 = p at e1
    go_simp) ?_
  simp only [Act.put, List.setIfInBounds_toArray, List.set_cons_zero, List.set_cons_succ]
  generalize ((q / 16 : Nat) : Int) = p
  clear hmin HQ
  go_wp2_with (fail)
  have HR : Hid (Lw.RowB (u.alloc (.cells M 5)) u.heap.size k (fun _ => 0)) := Lw.rowB_new u M k HM.out HMc.out
  have HG : Hid (w.heap.size ≤ u.heap.size) := HB.out.size
  have HB : Hid (Below w.heap.size w (u.alloc (.cells M 5))) := HB.out.alloc HG.out _
  clear hmk HM HMc
  generalize u.heap.size = g at HR HG ⊢
  generalize u.alloc (.cells M 5) = w1 at HR HB ⊢
  go_loopw [9] (fun v wx => ∃ (j : Nat) (X : Nat → Nat), Hid (j ≤ k) ∧ v = .int .i64 j ∧ Hid (Lw.RowB wx g k X) ∧ Hid (∀ t, t < j → X t = Aes.byt a1 t ^^^ Aes.byt a2 t) ∧ Hid (∀ t, X t < 256) ∧ Hid (Below w.heap.size w wx)) (fun v _ => k - (intOf v).toNat)
  case atStart => exact ⟨0, fun _ => 0, Nat.zero_le _, rfl, HR, fun t ht => absurd ht (Nat.not_lt_zero t), fun _ => by show 0 < 256; decide, HB⟩
  case round =>
    clear HR HB
    obtain ⟨j, X, hj, rfl, HR, HXs, HX, HB⟩ := hrel
    by_cases hlt : j < k
    · have jl : ((j : Int) < (k : Int)) = True := eq_true (by omega)
      have jl' : (j : Int) < (k : Int) := by omega
      have i1 : (j : Int) < (a1.size : Int) := by have := HK1.out; omega
      have i2 : (j : Int) < (a2.size : Int) := by have := HK2.out; omega
      have v1 : ∀ h : j < a1.size, (a1[j]'h).toNat = Aes.byt a1 j := fun h => Aes.get_byt a1 _ h
      have v2 : ∀ h : j < a2.size, (a2[j]'h).toNat = Aes.byt a2 j := fun h => Aes.get_byt a2 _ h
      have o1 := Aes.u8_xor (Aes.byt a1 j) (Aes.byt a2 j) (Aes.byt_lt _ _) (Aes.byt_lt _ _)
      have xc := World.rowIs.cell HR.out (i := j) hlt
      have xf := World.rowIs.frozen HR.out j
      have HJ := Lib.hid hlt
      have iw : wrap64 ((j : Int) + 1) = (j : Int) + 1 := IntWalk.wrap64_in _ (by have := HKm.out; omega)
      clear hlt
      go_wp2_with (fail)
      refine wp_region_quiet_tail 10 (by kernel_rfl) (by kernel_rfl) ?_
      simp only [List.take_succ_cons, List.take_zero, List.drop_succ_cons, List.drop_zero]
      repeat (go_big_quiet_step (fail))
      refine wpQuiet_nil ?_
      intro nq
      have HB := Lib.hid (Lw.below_drewN HB.out nq)
      have HR := Lib.hid (HR.out.drewN nq)
      have xc : (wr.drewN nq).cell? ⟨g, j, none⟩ = some (.int .u8 (X j : Nat)) := xc
      have xf : (wr.drewN nq).frozen? ⟨g, j, none⟩ = false := xf
      clear v1 v2 i1 i2 o1
      generalize wr.drewN nq = w5 at HB HR xc xf ⊢
      go_wp2_with (fail)
      try rw [iw]
      refine ⟨⟨j + 1, fun i => if i = j then Aes.byt a1 j ^^^ Aes.byt a2 j else X i, HJ.out, by go_num, HR.out.set j _, fun t ht => ?_, fun t => ?_, HB.out.setCell HG.out _⟩, Lw.meas k j HJ.out⟩
      · show (if t = j then _ else X t) = _
        split
        · next e => rw [e]
        · exact HXs.out t (by omega)
      · show (if t = j then _ else X t) < 256
        split
        · exact Aes.xor8_lt (Aes.byt_lt _ _) (Aes.byt_lt _ _)
        · exact HX.out t
    · have jl : ((j : Int) < (k : Int)) = False := eq_false (by omega)
      obtain rfl : j = k := by have := hj.out; omega
      have hc := HR.out.text 0 j j (by omega)
      have HU : Hid ((Lw.pieceS X 0 j).size = j) := Lw.pieceS_size _ _ _
      have HUb : Hid (∀ t, t < j → Aes.byt (Lw.pieceS X 0 j) t = Aes.byt a1 t ^^^ Aes.byt a2 t) := fun t ht => by rw [Lw.byt_piece X 0 j t ht HX.out, Nat.zero_add]; exact HXs.out t ht
      generalize hUe : Lw.pieceS X 0 j = U at hc HU HUb
      have HUe := Lib.hid hUe
      clear hUe
      have HS : Hid ((a1.extract 0 j).size = j) := Gs.take_size a1 j HK1.out
      have HT : Hid ((a2.extract 0 j).size = j) := Gs.take_size a2 j HK2.out
      have HSum : Hid (∀ i, i < 16 → Aes.byt (Gcm.ghS a0 U) i = Aes.byt (Gcm.ghS a0 (a1.extract 0 j)) i ^^^ Aes.byt (Gcm.ghS a0 (a2.extract 0 j)) i) := fun i hi =>
        Gcm.ghS_sum a0 _ _ U (by rw [HS.out, HU.out]) (by rw [HT.out, HU.out]) (fun t => by
          by_cases ht : t < j
          · rw [HUb.out t ht, Gs.byt_take a1 j t ht, Gs.byt_take a2 j t ht]
          · rw [Gcm.byt_out U t (by rw [HU.out]; omega), Gcm.byt_out _ t (by rw [HS.out]; omega), Gcm.byt_out _ t (by rw [HT.out]; omega)]; rfl) i hi
      have HA := Lib.hid (Gcm.hash_ok (h := a0) (s := a1.extract 0 j) HH.out (by rw [HS.out]; exact HKd.out))
      have HBb := Lib.hid (Gcm.hash_ok (h := a0) (s := a2.extract 0 j) HH.out (by rw [HT.out]; exact HKd.out))
      have HCc := Lib.hid (Gcm.hash_ok (h := a0) (s := U) HH.out (by rw [HU.out]; exact HKd.out))
      have k1 : (j : Int) ≤ (a1.size : Int) := by have := HK1.out; omega
      have k2 : (j : Int) ≤ (a2.size : Int) := by have := HK2.out; omega
      clear hlt HUb HXs HX hc
      go_wp2_with (fail)
      refine (Gs.hash_any a0 (a1.extract 0 j) _ (by have := HS.out; have := HKm.out; omega)).mono ?_
      rw [HA.out.1, HA.out.2]
      rintro e u1 ⟨rfl, hb⟩
      have HB := Lib.hid (Lw.go_on HB.out hb)
      have HR := Lib.hid (HR.out.on hb)
      clear hb
      go_wp2_with (fail)
      refine (Gs.hash_any a0 (a2.extract 0 j) _ (by have := HT.out; have := HKm.out; omega)).mono ?_
      rw [HBb.out.1, HBb.out.2]
      rintro e u2 ⟨rfl, hb⟩
      have HB := Lib.hid (Lw.go_on HB.out hb)
      have HR := Lib.hid (HR.out.on hb)
      clear hb
      have hc2 := HR.out.text 0 j j (by omega)
      rw [HUe.out] at hc2
      go_wp2_with (fail)
      refine (Gs.hash_any a0 U _ (by have := HU.out; have := HKm.out; omega)).mono ?_
      rw [HCc.out.1, HCc.out.2]
      rintro e u3 ⟨rfl, hb⟩
      have HB := Lib.hid (Lw.go_on HB.out hb)
      clear hb hc2 HR k1 k2
      have s1 : (Gcm.ghS a0 (a1.extract 0 j)).size = 16 := Gcm.ghS_size _ _
      have s2 : (Gcm.ghS a0 (a2.extract 0 j)).size = 16 := Gcm.ghS_size _ _
      have s3 : (Gcm.ghS a0 U).size = 16 := Gcm.ghS_size _ _
      generalize Gcm.ghS a0 (a1.extract 0 j) = p1 at HSum s1 ⊢
      generalize Gcm.ghS a0 (a2.extract 0 j) = p2 at HSum s2 ⊢
      generalize Gcm.ghS a0 U = p3 at HSum s3 ⊢
      go_wp2_with (go_at_call 15; refine (Lw.num_same _ _).mono ?_; rintro e u ⟨rfl, rfl⟩)
      go_loopw [16] (fun v wx => ∃ i : Nat, Hid (i ≤ 16) ∧ v = .int .i64 i ∧ Hid (Below w.heap.size w wx)) (fun v _ => 16 - (intOf v).toNat)
      case atStart => exact ⟨0, Nat.zero_le _, rfl, HB⟩
      case round =>
        clear HB
        obtain ⟨i, hi, rfl, HB⟩ := hrel
        by_cases hlt : i < 16
        · have il : ((i : Int) < 16) = True := eq_true (by omega)
          have HI := Lib.hid hlt
          have i1 : (i : Int) < (p1.size : Int) := by omega
          have i2 : (i : Int) < (p2.size : Int) := by omega
          have i3 : (i : Int) < (p3.size : Int) := by omega
          have i4 : (i : Int) < 16 := by omega
          have v1 : ∀ h : i < p1.size, (p1[i]'h).toNat = Aes.byt p1 i := fun h => Aes.get_byt p1 _ h
          have v2 : ∀ h : i < p2.size, (p2[i]'h).toNat = Aes.byt p2 i := fun h => Aes.get_byt p2 _ h
          have v3 : ∀ h : i < p3.size, (p3[i]'h).toNat = Aes.byt p3 i := fun h => Aes.get_byt p3 _ h
          have o1 := Aes.u8_xor (Aes.byt p1 i) (Aes.byt p2 i) (Aes.byt_lt _ _) (Aes.byt_lt _ _)
          rw [← HSum.out i hlt] at o1
          clear hlt
          go_wp2_with (fail)
          go_quiet (fail)
          have HB := Lib.hid (Lw.below_drewN HB.out nq)
          generalize wr.drewN nq = w5 at HB ⊢
          clear v1 v2 v3 o1 i1 i2 i3
          go_wp2_with (fail)
          exact ⟨⟨i + 1, HI.out, by go_num, HB⟩, Lw.meas 16 i HI.out⟩
        · have il : ((i : Int) < 16) = False := eq_false (by omega)
          clear hlt
          go_wp2_with (fail)
          go_ret
          exact ⟨rfl, HB.out⟩

set_option maxRecDepth 100000 in
theorem lifted (os : Os) (started : os.Started) (H : Type) (enc : TypeId × Value → H) :
    ReturnsInHanded {} Try.checked os 5 .any (Rows.ghashSumsSpec.pre6 enc Try.prog Try.f5 Rows.ghashSumsRow.domain false) (Rows.ghashSumsSpec.post enc Try.prog Try.f5 false true false false) := by
  refine returnsInHanded_of_change (C := Try.checked) own started (by kernel_rfl) Try.func5
    (ChangeSpec.witness6 (enc := enc) (C := Try.checked) false ⟨#[], #[.string ByteArray.empty, .string ByteArray.empty, .string ByteArray.empty], []⟩ 8 (by kernel_rfl) (by kernel_rfl) (by kernel_rfl) (by kernel_rfl)) ?_
  intro W base args ds gs before hval0 hW hcnd _
  have hval : ∀ (j : Nat) t v, Try.f5.params[j]? = some t → args[j]? = some v → Value.okWide Try.prog W .any base t v := hval0
  have hW' := hW
  obtain ⟨p, q, hA0, hV, rfl, hfz, hnd⟩ := hW
  have hA : DataW.TrodAll enc Try.prog W 0 (fun _ => true) true Try.f5.params.toList args.toList ds p := hA0
  rw [Try.params5] at hA hval
  obtain ⟨v0, vs0, d0, ds0, p0, q0, hargs, rfl, rfl, h0, r0⟩ := trodAll_cons hA
  obtain ⟨v1, vs1, d1, ds1, p1, q1, rfl, rfl, rfl, h1, r1⟩ := trodAll_cons r0
  obtain ⟨v2, vs2, d2, ds2, p2, q2, rfl, rfl, rfl, h2, r2⟩ := trodAll_cons r1
  obtain ⟨rfl, rfl, rfl⟩ := trodAll_nil r2
  obtain rfl : args = #[v0, v1, v2] := by cases args; simp_all
  obtain ⟨rfl, rfl⟩ := trodVars_none hV
  obtain ⟨a0, rfl, rfl, rfl, w0⟩ := open_string Try.underlying9 (hval 0 9 v0 rfl rfl) h0
  obtain ⟨a1, rfl, rfl, rfl, w1⟩ := open_string Try.underlying9 (hval 1 9 v1 rfl rfl) h1
  obtain ⟨a2, rfl, rfl, rfl, w2⟩ := open_string Try.underlying9 (hval 2 9 v2 rfl rfl) h2
  clear hA0 hval0
  simp only [List.append_nil] at hW'
  refine (walk a0 a1 a2 w0 w1 w2 W).mono fun e W' ⟨he, bel⟩ => ?_
  subst he
  exact ⟨_, rfl, _, _, _, [], [], [], hW', trodAll_mk1 (shut_bool Try.underlying4 _), (trodAll_cons_mk (shut_string Try.underlying9 w0) (trodAll_cons_mk (shut_string Try.underlying9 w1) (trodAll_cons_mk (shut_string Try.underlying9 w2) trodAll_mk0))), rfl, bel.frame _, fun h => by cases h⟩

theorem over : Rows.ghashSumsRow.holds Try.pinned (OpenSpec.ofChange Rows.ghashSumsSpec) :=
  OpenClaim.holds_of_wide 5 Try.f5 rfl rfl rfl rfl rfl rfl rfl ⟨rfl, rfl, rfl, rfl, rfl⟩ rfl rfl rfl rfl rfl (by kernel_rfl) Try.func5 (by kernel_rfl)
    (of_decide_eq_true (by kernel_rfl)) (by unfold Func.isWrapper; first | (rw [if_pos (by decide +kernel)]; kernel_rfl) | (rw [if_neg (by decide +kernel)]; exact ⟨rfl, rfl⟩))
    (fun os started H enc _ => lifted os started H enc)

theorem proved : Rows.GhashSumsSaid :=
  over
#print axioms proved
end Go.Proofs.Ytfjodabkfjfcbaa.ghashSums
