/-
  The developers' hkdf: padded, blockSize.
-/
import Derived.Test.YtbfkbinkfboklaaDoorImI
import Derived.Test.YtbfkbinkfboklaaDoorHkB
namespace Go.Proofs.Kd
open Go.RowKit Go.Proofs.Be Go.Proofs.Sha Go.Proofs.Hk Go.Proofs.Im
/-- The bytes when the key was copied. -/
def keyN (s : ByteArray) (t : Nat) : Nat := if t < s.size then byt s t else 0
theorem keyN_lt (s : ByteArray) (t : Nat) : keyN s t < 256 := by unfold keyN; split; exact byt_lt _ _; decide
theorem keyN_xor (s : ByteArray) (b t : Nat) : keyN s t ^^^ b = xorN s b t := by
  unfold keyN xorN; split
  · rfl
  · exact Nat.zero_xor b
theorem ext_all (s : ByteArray) : s.extract 0 s.size = s := ByteArray.extract_zero_size
theorem row_copied (w wx : World) (s : ByteArray) (m : Nat) (h : RowX w wx m (fun _ => 0)) : RowX w (wx.setCells w.heap.size 0 (bytesC s)) m (keyN s) := by
  refine World.rowIs.congr (Im.rowIs_setCells _ 0 wx _ h) fun i hi => ?_
  rw [bytesC_length]
  by_cases h1 : i < s.size
  · rw [if_pos ⟨Nat.zero_le _, by omega⟩, List.getD_eq_getElem?_getD, Nat.sub_zero, bytesC_get _ _ h1]
    simp [keyN, h1]
  · rw [if_neg (by omega)]
    simp [keyN, h1]
set_option maxHeartbeats 1000000 in
set_option maxRecDepth 100000 in
theorem padded_any (s : ByteArray) (m b : Nat) (w : World) (hb : b < 256) (hs : s.size ≤ m) (hm : m ≤ 1000000) :
    Calls Tryd.prog 32 #[.string s, .int .i64 m, .int .u8 b] w fun e w' => e = .returned (.string (xorS s b m)) ∧ Below w.heap.size w w' := by
  have HB := Lib.hid hb
  clear hb
  obtain ⟨M, hM, hMc, hmk⟩ := zeros m hm
  have R0 : RowX w (w.alloc (.cells M 5)) m (fun _ => 0) := rowIs_of w M 5 m _ hM hMc
  have B0 : Below w.heap.size w (w.alloc (.cells M 5)) := (Below.refl _ w).alloc (Nat.le_refl _) _
  have R1 := Lib.hid (row_copied w _ s m R0)
  have B1 : Hid (Below w.heap.size w ((w.alloc (.cells M 5)).setCells w.heap.size 0 (bytesC s))) := (But.setCells _ 0 _ (But.refl w.heap.size _)).below B0 (Nat.le_refl _) B0.size
  have hcp := run_copy_min (P := Tryd.prog) (w.alloc (.cells M 5)) 35 9 3 5 w.heap.size 0 m m s s.size (Nat.min_eq_left hs) Tryd.underlying35 (fun _ => by kernel_rfl) (fun j hj => ⟨by rw [Nat.zero_add, World.rowIs.cell R0 (i := j) (by omega)]; rfl, World.rowIs.frozen R0 _⟩)
  rw [ext_all] at hcp
  clear hM hMc R0 B0 hs
  go_enter Tryd.func32, Tryd.ntmps32
  go_wp2_with (fail)
  clear hmk hcp
  generalize (w.alloc (.cells M 5)).setCells w.heap.size 0 (bytesC s) = w1 at R1 B1 ⊢
  go_loopw [16] (fun i wx => ∃ (j : Nat) (X : Nat → Nat), j ≤ m ∧ i = .int .i64 j ∧ Hid (∀ t, X t = if t < j then xorN s b t else keyN s t) ∧ RowX w wx m X ∧ Below w.heap.size w wx) (fun i _ => m - (intOf i).toNat)
  case atStart => exact ⟨0, keyN s, Nat.zero_le _, rfl, fun t => by rw [if_neg (Nat.not_lt_zero t)], R1.out, B1.out⟩
  case round =>
    clear R1 B1
    obtain ⟨j, X, hj, rfl, HX, HR, hbl⟩ := hrel
    by_cases hlt : j < m
    · have hc := World.rowIs.cell HR (i := j) hlt
      have hf := World.rowIs.frozen HR j
      have jb' : (j : Int) < m := by omega
      have HXj : Hid (X j = keyN s j) := by have := HX.out j; rwa [if_neg (Nat.lt_irrefl j)] at this
      go_wp2_with (fail)
      rw [HXj.out, Hk.u8_xor _ _ (keyN_lt s j) HB.out, keyN_xor]
      refine ⟨⟨j + 1, _, by omega, by go_num, fun t => ?_, HR.set j (xorN s b j), hbl.setCell (Nat.le_refl _) _⟩, by simp [intOf]; omega⟩
      show (if t = j then xorN s b j else X t) = _
      by_cases h : t = j
      · subst h; rw [if_pos rfl, if_pos (Nat.lt_succ_self _)]
      · rw [if_neg h, HX.out t]
        by_cases h2 : t < j
        · rw [if_pos h2, if_pos (by omega)]
        · rw [if_neg h2, if_neg (by omega)]
    · go_wp2_with (fail)
      rw [run_convert_bytes_arg (P := Tryd.prog) _ 35 5 Tryd.underlying35 Tryd.underlying5 w.heap.size 0 m m ((List.range m).map fun t => (xorN s b t : Int)) (by simp) (fun i hi => by
        rw [Nat.zero_add, World.rowIs.cell HR (i := i) hi, HX.out i, if_pos (by omega)]
        simp [List.getD_eq_getElem?_getD, List.getElem?_range hi]) 9 Tryd.underlying9]
      go_wp2_with (fail)
      go_ret
      exact ⟨rfl, hbl⟩
theorem bS_bitsK (wide : Bool) : bS (bitsK wide) = sizeK wide := by cases wide <;> rfl
theorem kblockSize_any (wide : Bool) (w : World) : Calls Tryd.prog 29 #[.int .i64 (bitsK wide)] w fun e w' => e = .returned (.int .i64 (sizeK wide : Nat)) ∧ w = w' := by
  cases wide
  · show Calls Tryd.prog 29 #[.int .i64 256] w _
    go_enter Tryd.func29, Tryd.ntmps29
    go_wp2
    go_ret
    exact ⟨rfl, rfl⟩
  · show Calls Tryd.prog 29 #[.int .i64 384] w _
    go_enter Tryd.func29, Tryd.ntmps29
    go_wp2
    go_ret
    exact ⟨rfl, rfl⟩
end Go.Proofs.Kd
