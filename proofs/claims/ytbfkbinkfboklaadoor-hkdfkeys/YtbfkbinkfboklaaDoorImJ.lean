/-
  The developers' Hash: Write.
-/
import Derived.Test.YtbfkbinkfboklaaDoorImI
namespace Go.Proofs.Im
open Go.RowKit Go.Proofs.Sha
section
variable {P : Program} {md : Region.Mode} {ops : Array Oper} {Q : Exit → Act → World → Prop} {fuel i : Nat} {listed : Array Bool} {a : Act} {w : World} {o : Oper} {rs : List Nat}
theorem ready_val (ho : ops[i]? = some o) (hg : o.guard = none) (v : Value) (w' : World) (hr : (execOp a.eval o).run P w = .ok (.value v) w')
    (h : wpAny P md ops Q fuel (listed.setIfInBounds i true) (a.put o.dst v) w')
    (hs : AllReady P md ops Q fuel listed a w rs) : AllReady P md ops Q fuel listed a w (i :: rs) :=
  ready_plain ho hg (fun _ hK => by unfold Oper.wp; rw [hr]; exact hK _ _ h) hs
theorem ready_copy (ho : ops[i]? = some o) (hg : o.guard = none) (d s : Operand) (dT sT : TypeId) (hop : o.op = .call { callee := .builtin .copy, args := #[d, s], argTypes := #[dT, sT] }) (dv sv : Value) (hd : a.eval d = dv) (hs' : a.eval s = sv)
    (v : Value) (w' : World) (hr : (Builtin.copy_ #[dT, sT] o.type #[dv, sv]).run P w = .ok v w')
    (h : wpAny P md ops Q fuel (listed.setIfInBounds i true) (a.put o.dst v) w')
    (hs : AllReady P md ops Q fuel listed a w rs) : AllReady P md ops Q fuel listed a w (i :: rs) :=
  ready_val ho hg v w' (by subst hd hs'; simp [execOp, hop, resolve, invoke, builtin, hr, Result.andThen]) h hs
end
/-- A text's length. -/
def lenV : Value → Nat
  | .string s => s.size
  | _ => 0
set_option maxHeartbeats 1000000 in
theorem write_any (wide : Bool) (g : Nat) (s t : ByteArray) (w : World) (h : Wrote w g wide s) (hg : 0 < g) (hT : Tab w) (hs : s.size + t.size ≤ 288230376151711744) :
    Calls Tryd.prog 42 #[.pointer (some ⟨g, 0, none⟩), .string t] w fun e w' => e = .returned (.tuple #[]) ∧ But g w w' ∧ Wrote w' g wide (s ++ t) := by
  have H := Lib.hid h
  have HT := Lib.hid hT
  have HSz := Lib.hid hs
  obtain ⟨st0, buf0, hi0, -⟩ := h
  have c0 := hi0.bits
  clear hT hi0 hs
  go_enter Tryd.func42, Tryd.ntmps42
  go_wp2_with (go_at_call 50; refine (blockSize_any (kindK wide) g _ c0).mono ?_; rintro e u ⟨rfl, rfl⟩)
  clear c0
  go_loopw [1] (fun v wx => ∃ q r : ByteArray, Hid (q ++ r = t) ∧ v = .string r ∧ Hid (But g u wx) ∧ Hid (Wrote wx g wide (s ++ q)) ∧ Hid (Tab wx)) (fun v _ => lenV v)
  case atStart => exact ⟨⟨#[]⟩, t, by show ByteArray.empty ++ t = t; exact ByteArray.empty_append, rfl, But.refl _ _, (by show Wrote u g wide (s ++ ByteArray.empty); rw [ByteArray.append_empty]; exact H.out), HT⟩
  case round =>
    obtain ⟨q, r, hq, rfl, hB, hW, hTx⟩ := hrel
    by_cases hr : 0 < r.size
    · have hr' : (0 : Int) < (r.size : Int) := by omega
      go_wp2_with (fail)
      obtain ⟨p, hp⟩ : ∃ p, s ++ q = p := ⟨_, rfl⟩
      have hW1 : Wrote wr g wide p := by rw [← hp]; exact hW.out
      have HP := Lib.hid hp
      clear hW hp
      obtain ⟨st, buf, hI, hH⟩ := hW1
      obtain ⟨k, hk⟩ : ∃ k, p.size % sizeK wide = k := ⟨_, rfl⟩
      have k1 : k < sizeK wide := by rw [← hk]; exact Nat.mod_lt _ (sizeK_pos wide)
      have k2 := sizeK_le wide
      obtain ⟨n, hn⟩ : ∃ n, Nat.min r.size (sizeK wide - k) = n := ⟨_, rfl⟩
      have n1 : n ≤ r.size := by rw [← hn]; exact Nat.min_le_left _ _
      have n2 : k + n ≤ sizeK wide := by have : n ≤ sizeK wide - k := by rw [← hn]; exact Nat.min_le_right _ _
                                         omega
      have n3 : 0 < n := by rw [← hn]; exact Nat.lt_min.2 ⟨hr, by omega⟩
      have qz : q.size + r.size = t.size := by rw [← ByteArray.size_append, hq.out]
      have pz : p.size + n ≤ 288230376151711744 := by have := HSz.out; rw [← HP.out, ByteArray.size_append]; omega
      refine wp_region_any (by kernel_rfl) ?_
      change wpAny _ _ _ _ _ _ _ wr.drew
      refine wpAny_take (i := 0) (v := .pointer (some ⟨g, 0, none⟩)) rfl (by kernel_rfl) (by kernel_rfl) (by kernel_rfl) (fun _ _ _ h => h) (Or.inl ⟨by rfl, fun w => by go_simp⟩) ?_
      refine wpAny_take (i := 1) (v := .pointer (some ⟨g, 0, none⟩)) rfl (by kernel_rfl) (by kernel_rfl) (by kernel_rfl) (fun _ _ _ h => h) (Or.inl ⟨by rfl, fun w => by go_simp⟩) ?_
      refine wpAny_take (i := 2) (v := .pointer (some ⟨g, 9, none⟩)) rfl (by kernel_rfl) (by kernel_rfl) (by kernel_rfl) (fun _ _ _ h => h) (Or.inl ⟨by rfl, fun w => by go_simp⟩) ?_
      refine wpAny_take (i := 3) (v := .pointer (some ⟨g, 0, none⟩)) rfl (by kernel_rfl) (by kernel_rfl) (by kernel_rfl) (fun _ _ _ h => h) (Or.inl ⟨by rfl, fun w => by go_simp⟩) ?_
      refine wpAny_take (i := 5) (v := .int .i64 (sizeK wide : Nat)) rfl (by kernel_rfl) (by kernel_rfl) (by kernel_rfl) (fun _ _ _ h => h) (Or.inl ⟨by rfl, fun w => by go_simp⟩) ?_
      refine wpAny_take (i := 7) (v := .string r) rfl (by kernel_rfl) (by kernel_rfl) (by kernel_rfl) (fun _ _ _ h => h) (Or.inl ⟨by rfl, fun w => by go_simp⟩) ?_
      simp only [Act.put, List.setIfInBounds_toArray]
      refine wpAny_ready (rs := [4]) (by kernel_rfl) (by simp) ?_
      refine ready_call rfl rfl 51 _ _ rfl (fun _ _ => by go_simp) #[.pointer (some ⟨g, 0, none⟩)] (by kernel_rfl) ?_ AllReady.nil
      refine (held_any (kindK wide) g p.size wr.drew hI.drew.bits hI.drew.len (by omega)).mono ?_
      rintro e u1 ⟨rfl, m, rfl⟩
      rw [hk]
      refine ⟨_, rfl, ?_⟩
      simp only [Act.put]
      have hI1 := hI.drew.drewN m
      have hB1 : But g wr (wr.drew.drewN m) := ⟨rfl, rfl, rfl, Nat.le_refl _, fun _ _ _ => rfl⟩
      generalize wr.drew.drewN m = w1 at hI1 hB1 ⊢
      refine wpAny_ready (rs := [6]) (by kernel_rfl) (by simp) ?_
      refine ready_val rfl rfl (.slice (some ⟨g, 9 + k, none⟩) (sizeK wide - k) (128 - k)) w1 (by
        have hsl := slice128 w1 g 9 k (sizeK wide - k) (k : Nat) (sizeK wide : Nat) rfl (by rw [Nat.add_sub_cancel' (Nat.le_of_lt k1)]) (by omega) (by omega)
        go_simp) ?_ AllReady.nil
      simp only [Act.put]
      refine wpAny_ready (rs := [8]) (by kernel_rfl) (by simp) ?_
      refine ready_copy rfl rfl _ _ _ _ rfl (.slice (some ⟨g, 9 + k, none⟩) (sizeK wide - k) (128 - k)) (.string r) (by kernel_rfl) (by kernel_rfl) (goInt n) (w1.setCells g (9 + k) (bytesC (r.extract 0 n))) (run_copy_min w1 _ _ _ 5 g (9 + k) _ _ r n hn Tryd.underlying35 (fun _ => by kernel_rfl) (hI1.there _ _ (by omega))) ?_ AllReady.nil
      simp only [Act.put]
      refine wpAny_take (i := 9) (v := .int .i64 (n : Nat)) rfl (by kernel_rfl) (by kernel_rfl) (by kernel_rfl) (fun _ _ _ h => h) (Or.inl ⟨by rfl, fun w => by go_simp⟩) ?_
      refine wpAny_done (by kernel_rfl) ?_ _
      simp only [Act.put]
      have hI2 := hI1.setBuf k n r n1 (by omega)
      have hB2 : But g wr (w1.setCells g (9 + k) (bytesC (r.extract 0 n))) := But.setCells _ _ _ hB1
      generalize w1.setCells g (9 + k) (bytesC (r.extract 0 n)) = w2 at hI2 hB2 ⊢
      clear hI1 hB1
      have c7 := hI2.len
      have f7 := hI2.frozen 137
      have n4 : (n : Int) ≤ (r.size : Int) := by omega
      have hx : (p.size : Int) + (n : Int) < 18446744073709551616 := by omega
      have hx2 : IntKind.u64.wrap ((p.size : Int) + (n : Int)) = ((p.size + n : Nat) : Int) := IntWalk.u64_in _ (by omega)
      go_upto_region 6 with (fail)
      rw [show ((p.size : Int) + (n : Int)) = ((p.size + n : Nat) : Int) from (Int.natCast_add _ _).symm]
      have hI3 := hI2.setLen (p.size + n)
      have hB3 : But g wr (w2.setCell ⟨g, 137, none⟩ (.int .u64 ((p.size + n : Nat) : Int))) := hB2.setCell _ _
      generalize w2.setCell ⟨g, 137, none⟩ (.int .u64 ((p.size + n : Nat) : Int)) = w3 at hI3 hB3 ⊢
      have HPZ := Lib.hid pz
      clear c7 f7 hI2 hB2 hx hx2 pz
      have e1 : p ++ r.extract 0 n = s ++ (q ++ r.extract 0 n) := by rw [← HP.out, ByteArray.append_assoc]
      have e2 : (q ++ r.extract 0 n) ++ r.extract n r.size = t := by rw [ByteArray.append_assoc, ext_split r n n1]; exact hq.out
      have e3 : (p ++ r.extract 0 n).size = p.size + n := by rw [ByteArray.size_append, ext_size r n n1]
      have e4 : (r.extract n r.size).size < r.size := by rw [ByteArray.size_extract]; omega
      have E1 := Lib.hid e1
      have E2 := Lib.hid e2
      have E3 := Lib.hid e3
      have E4 := Lib.hid e4
      clear e1 e2 e3 e4
      by_cases hf : k + n = sizeK wide
      · have hm : (p.size + n) % sizeK wide = 0 := by
          have := Nat.div_add_mod p.size (sizeK wide)
          rw [show p.size + n = sizeK wide * (p.size / sizeK wide) + sizeK wide by omega, Nat.mul_add_mod, Nat.mod_self]
        have HM := Lib.hid hm
        clear hm
        go_wp2_with (first
          | (go_at_call 51; refine (held_any (kindK wide) g (p.size + n) w3 hI3.bits hI3.len (by have := HPZ.out; omega)).mono ?_; rintro e u1 ⟨rfl, m, rfl⟩; rw [HM.out])
          | (go_at_call 52; refine (hmixK wide (restK wide p ++ r.extract 0 n) g st (putB buf k n r) (p.size + n) _ (hI3.drewN m) ((hTx.out.but hB3 hg).below (below_drewN (Below.refl w3.heap.size w3) m) (Tab.pos (hTx.out.but hB3 hg))) (putB_lt hH.2.2.1 _ _ _) (fun i hi => by rw [← hk]; exact putB_rest hH n i (by omega)) hH.2.1).mono ?_; rintro e u2 ⟨rfl, hBm, st', hIm, hst, hlm⟩))
        have hD : But g w3 (w3.drewN m) := ⟨rfl, rfl, rfl, Nat.le_refl _, fun _ _ _ => rfl⟩
        have hBx : But g wr u2 := (hB3.trans hD).trans hBm
        have hHf : Holds wide (p ++ r.extract 0 n) st' (putB buf k n r) := by
          have := Holds.full hH n n1 (by rw [hk]; exact hf) hst hlm
          rwa [hk] at this
        exact ⟨⟨q ++ r.extract 0 n, r.extract n r.size, E2.out, rfl, hB.out.trans hBx, ⟨st', putB buf k n r, by rw [← E1.out, E3.out]; exact hIm, by rw [← E1.out]; exact hHf⟩, hTx.out.but hBx hg⟩, E4.out⟩
      · have hm : (p.size + n) % sizeK wide = k + n := by
          have := Nat.div_add_mod p.size (sizeK wide)
          rw [show p.size + n = sizeK wide * (p.size / sizeK wide) + (k + n) by omega, Nat.mul_add_mod, Nat.mod_eq_of_lt (by omega)]
        have HM := Lib.hid hm
        clear hm
        have hz : ((k : Int) + (n : Int) == 0) = false := by simp; omega
        go_wp2_with (go_at_call 51; refine (held_any (kindK wide) g (p.size + n) w3 hI3.bits hI3.len (by have := HPZ.out; omega)).mono ?_; rintro e u1 ⟨rfl, m, rfl⟩; rw [HM.out])
        have hD : But g w3 (w3.drewN m) := ⟨rfl, rfl, rfl, Nat.le_refl _, fun _ _ _ => rfl⟩
        have hBx : But g wr (w3.drewN m) := hB3.trans hD
        have hHf : Holds wide (p ++ r.extract 0 n) st (putB buf k n r) := by
          have := Holds.part hH n n1 (by rw [hk]; omega)
          rwa [hk] at this
        exact ⟨⟨q ++ r.extract 0 n, r.extract n r.size, E2.out, rfl, hB.out.trans hBx, ⟨st, putB buf k n r, by rw [← E1.out, E3.out]; exact hI3.drewN m, by rw [← E1.out]; exact hHf⟩, hTx.out.but hBx hg⟩, E4.out⟩
    · have hr' : ¬ (0 : Int) < (r.size : Int) := by omega
      go_wp2_with (fail)
      go_end0
      obtain rfl : r = ⟨#[]⟩ := ByteArray.size_eq_zero_iff.1 (by omega)
      have : q = t := by have := hq.out; rwa [show (⟨#[]⟩ : ByteArray) = ByteArray.empty from rfl, ByteArray.append_empty] at this
      subst this
      exact ⟨rfl, hB.out, hW.out⟩
end Go.Proofs.Im
