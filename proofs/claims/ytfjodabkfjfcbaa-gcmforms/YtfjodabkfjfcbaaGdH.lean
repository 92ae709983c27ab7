/-
  The developers' gcm: a text under the counter's blocks.
-/
import Derived.Test.YtfjodabkfjfcbaaGdG
namespace Go.Proofs.Gd
open Go.RowKit Go.Proofs.Gcm
open Go.Proofs.Aes (byt byt_lt get_byt ciphS encS encS_size)
open Go.Proofs.Be (beS beS_size)
open Go.Proofs.Im (wpList_box_to)
set_option maxHeartbeats 4000000 in
theorem masked_any (key nonce s : ByteArray) (K : Nat × Nat) (w : World) (hk : keyOk key = true) (hno : nonce.size = 12) (hs : s.size ≤ 100000) :
    Calls Try.prog 19 #[.agg (cA key nonce K), .string s] w fun e w' => e = .returned (.string (ctrS (wkS key) (nR key) nonce 2 s)) ∧ Below w.heap.size w w' := by
  have HK := Lib.hid hk
  have HNo := Lib.hid hno
  have HS := Lib.hid hs
  obtain ⟨M, hM, hMc, hmk⟩ := Lw.zeros s.size (by omega)
  clear hk hno hs
  go_enter Try.func19, Try.ntmps19
  go_upto_region 0 with (fail)
  apply wp_region_lit
  refine wpList_box_to rfl 43 _ rfl (cA key nonce K) rfl w.heap.size rfl ?_
  have HC := Lib.hid (CiR.new w key nonce K)
  have HB : Hid (Below w.heap.size w (w.alloc (.cells (cA key nonce K) 43))) := (Below.refl _ _).alloc (Nat.le_refl _) _
  generalize w.alloc (.cells (cA key nonce K) 43) = w1 at HC HB ⊢
  have R0 := Lib.hid (Lw.rowB_new w1 M s.size hM hMc)
  have C0 := Lib.hid (HC.out.on ((Below.refl _ _).alloc (Nat.le_refl _) (.cells M 5)))
  have B0 := Lib.hid (HB.out.alloc HB.out.size (.cells M 5))
  have HW1 := Lib.hid HC.out.lt
  clear hM hMc HC HB
  go_wp2_with (fail)
  clear hmk
  go_loopw [6, 13] (fun vm vi wx => ∃ (i : Nat) (C : ByteArray) (X : Nat → Nat), Hid (i ≤ s.size) ∧ vi = .int .i64 i ∧ vm = .string C ∧ Hid (i % 16 ≠ 0 → C = encS key (nonce ++ beS (2 + i / 16) 4)) ∧ Hid (∀ t, t < i → X t = ctrB (wkS key) (nR key) nonce 2 s t) ∧ Hid (Lw.RowB wx w1.heap.size s.size X) ∧ Hid (CiR wx w.heap.size key nonce K) ∧ Hid (Below w.heap.size w wx)) (fun _ i _ => s.size - (intOf i).toNat)
  case atStart => exact ⟨0, ⟨#[]⟩, fun _ => 0, Nat.zero_le _, rfl, rfl, fun h => absurd rfl h, fun t ht => absurd ht (Nat.not_lt_zero t), R0, C0, B0⟩
  case round =>
    clear R0 C0 B0
    obtain ⟨i, C, X, hi, rfl, rfl, hC, hX, HR, HC, HB⟩ := hrel
    by_cases hlt : i < s.size
    · have il : ((i : Int) < (s.size : Int)) = True := eq_true (by omega)
      have il2 : (i < s.size) = True := eq_true hlt
      have HI := Lib.hid hlt
      obtain ⟨j, hj⟩ : ∃ j, i % 16 = j := ⟨_, rfl⟩
      obtain ⟨x, hm⟩ : ∃ x, 2 + i / 16 = x := ⟨_, rfl⟩
      have q1 : (i : Int) % 16 = (j : Int) := by omega
      have q2 : wrap64 ((i : Int) / 16) = (i : Int) / 16 := by have := HS.out; unfold wrap64; omega
      have q3 : wrap64 (2 + (i : Int) / 16) = (x : Int) := by have := HS.out; unfold wrap64; omega
      have HJ : Hid (j < 16) := by show j < 16; omega
      have HM : Hid (x < 4294967296) := by have := HS.out; show x < 4294967296; omega
      have HCt : Hid (ctrB (wkS key) (nR key) nonce 2 s i = byt s i ^^^ byt (encS key (nonce ++ beS x 4)) j) := by
        show _ = _
        unfold ctrB
        rw [hj, hm, encS_wk]
      rw [hj, hm] at hC
      have q4 : (i : Int).tmod 16 = (j : Int) := by rw [Int.tmod_eq_emod_of_nonneg (by omega)]; exact q1
      have q5 : wrap64 ((i : Int) + 1) = (i : Int) + 1 := by have := HS.out; unfold wrap64; omega
      have HJe := Lib.hid hj
      have HXe := Lib.hid hm
      clear hlt hj hm hi
      by_cases h0 : j = 0
      · subst h0
        clear hC
        go_upto_region 7 with (fail)
        apply wp_region_lit
        refine wpList_load_row rfl 43 _ rfl w.heap.size rfl 43 (cA key nonce K) (0, 0) _ HC.out Try.underlying43 rfl (by kernel_rfl) ?_
        simp only [Act.put, List.setIfInBounds_toArray, List.set_cons_zero, List.set_cons_succ]
        go_wp2_with (go_at_call 32; fail)
        refine (mask_any key nonce K x _ HK.out HNo.out HM.out).mono ?_
        rintro e u ⟨rfl, hbu⟩
        have HR := Lib.hid (HR.out.on hbu)
        have HC := Lib.hid (HC.out.on hbu)
        have HB := Lib.hid (Lw.go_on HB.out hbu)
        clear hbu
        rw [show ((0 : Nat) : Int) = 0 from rfl] at q1 q4
        have cz := encS_size key (nonce ++ beS x 4)
        generalize hE : encS key (nonce ++ beS x 4) = E at cz HCt ⊢
        have HE := Lib.hid hE
        clear hE
        have ii : (i : Int) < (s.size : Int) := by have := HI.out; omega
        have ec : (0 : Int) < (E.size : Int) := by have := HJ.out; omega
        have cc := World.rowIs.cell HR.out (i := i) HI.out
        have cf := World.rowIs.frozen HR.out i
        have vs : ∀ h : i < s.size, (s[i]'h).toNat = byt s i := fun h => get_byt s _ h
        have vc : ∀ h : 0 < E.size, (E[0]'h).toNat = byt E 0 := fun h => get_byt E _ h
        go_wp2_with (fail)
        refine wp_region_still_tail 11 (by kernel_rfl) (by kernel_rfl) ?_
        simp only [List.take_succ_cons, List.take_zero, List.drop_succ_cons, List.drop_zero]
        repeat still_step
        try refine wpStill_nil ?_
        change wpList _ _ _ _ _ u.drew
        clear vs vc ii ec
        go_wp2_with (fail)
        rw [Aes.u8_xor _ _ (byt_lt s i) (byt_lt E 0)]
        refine ⟨⟨i + 1, E, fun t => if t = i then byt s i ^^^ byt E 0 else X t, HI.out, by go_num, rfl, ?_, fun t ht => ?_, (HR.out.set i _).drew, ?_, (HB.out.setCell (Nat.le_of_lt HW1.out) _).drew⟩, by rw [q5]; exact Lw.meas s.size i HI.out⟩
        · intro hne
          rw [← HE.out, show 2 + (i + 1) / 16 = x by have := HXe.out; have := HJe.out; omega]
        · show (if t = i then _ else X t) = _
          by_cases e : t = i
          · rw [if_pos e, e]; exact HCt.out.symm
          · rw [if_neg e]; exact hX.out t (by omega)
        · exact (Below.heap_setCell _ ⟨w1.heap.size, i, none⟩ _ w.heap.size (Nat.ne_of_lt HW1.out)).trans HC.out
      · have j0 : ((j : Int) == 0) = false := by simp; omega
        have jn : ((j : Int) = 0) = False := eq_false (by omega)
        obtain rfl := hC.out h0
        have jl : (j : Int) < 16 := by have := HJ.out; omega
        have jl2 : ((j : Int) < 16) = True := eq_true jl
        clear hC h0
        have cz := encS_size key (nonce ++ beS x 4)
        generalize hE : encS key (nonce ++ beS x 4) = E at cz HCt ⊢
        have HE := Lib.hid hE
        clear hE
        have ii : (i : Int) < (s.size : Int) := by have := HI.out; omega
        have ec : (j : Int) < (E.size : Int) := by have := HJ.out; omega
        have cc := World.rowIs.cell HR.out (i := i) HI.out
        have cf := World.rowIs.frozen HR.out i
        have vs : ∀ h : i < s.size, (s[i]'h).toNat = byt s i := fun h => get_byt s _ h
        have vc : ∀ h : j < E.size, (E[j]'h).toNat = byt E j := fun h => get_byt E _ h
        go_wp2_with (fail)
        refine wp_region_still_tail 11 (by kernel_rfl) (by kernel_rfl) ?_
        simp only [List.take_succ_cons, List.take_zero, List.drop_succ_cons, List.drop_zero]
        repeat still_step
        try refine wpStill_nil ?_
        change wpList _ _ _ _ _ wr.drew
        clear vs vc ii ec
        go_wp2_with (fail)
        rw [Aes.u8_xor _ _ (byt_lt s i) (byt_lt E j)]
        refine ⟨⟨i + 1, E, fun t => if t = i then byt s i ^^^ byt E j else X t, HI.out, by go_num, rfl, ?_, fun t ht => ?_, (HR.out.set i _).drew, ?_, (HB.out.setCell (Nat.le_of_lt HW1.out) _).drew⟩, by rw [q5]; exact Lw.meas s.size i HI.out⟩
        · intro hne
          rw [← HE.out, show 2 + (i + 1) / 16 = x by have := HXe.out; have := HJe.out; omega]
        · show (if t = i then _ else X t) = _
          by_cases e : t = i
          · rw [if_pos e, e]; exact HCt.out.symm
          · rw [if_neg e]; exact hX.out t (by omega)
        · exact (Below.heap_setCell _ ⟨w1.heap.size, i, none⟩ _ w.heap.size (Nat.ne_of_lt HW1.out)).trans HC.out
    · have il : ((i : Int) < (s.size : Int)) = False := eq_false (by omega)
      have il2 : (i < s.size) = False := eq_false hlt
      obtain rfl : i = s.size := by have := hi.out; omega
      have hcv := HR.out.text 0 s.size s.size (by omega)
      have HE : Hid (Lw.pieceS X 0 s.size = ctrS (wkS key) (nR key) nonce 2 s) := by
        show strOfNums _ = strOfNums _
        congr 1
        apply List.map_congr_left
        intro t ht
        rw [Nat.zero_add, hX.out t (List.mem_range.1 ht)]
      rw [HE.out] at hcv
      clear hlt hi hX HE
      go_wp2_with (fail)
      go_ret
      exact ⟨rfl, HB.out⟩
end Go.Proofs.Gd
