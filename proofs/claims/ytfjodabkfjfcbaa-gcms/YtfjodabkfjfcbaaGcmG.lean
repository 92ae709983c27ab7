/-
  The document's own answer: Open of GCM at every input.
-/
import Derived.Test.YtfjodabkfjfcbaaGcmF
import Derived.Deep.RegionHeld3
namespace Go.Proofs.Gcm
open Go.RowKit
set_option maxHeartbeats 1000000 in
theorem ropen_no (key nonce aad s : ByteArray) (w : World) (h : gcmOk key nonce aad s 16 = false) :
    Calls Try.prog 12 #[.string key, .string nonce, .string aad, .string s] w fun e w' => e = .returned (.tuple #[.string ⟨#[]⟩, .int .i64 500]) ∧ Below w.heap.size w w' := by
  have H := Lib.hid (gcmMay_16 key nonce aad s w)
  rw [h] at H
  clear h
  go_enter Try.func12, Try.ntmps12
  go_wp2_with (fail)
  refine H.out.mono ?_
  rintro e u ⟨rfl, rfl⟩
  go_wp2_with (fail)
  go_ret2
  exact ⟨rfl, Below.refl _ _⟩
set_option maxHeartbeats 1000000 in
theorem ropen_short (key nonce aad s : ByteArray) (w : World) (h : gcmOk key nonce aad s 16 = true) (hs : s.size < 16) :
    Calls Try.prog 12 #[.string key, .string nonce, .string aad, .string s] w fun e w' => e = .returned (.tuple #[.string ⟨#[]⟩, .int .i64 501]) ∧ Below w.heap.size w w' := by
  have H := Lib.hid (gcmMay_16 key nonce aad s w)
  rw [h] at H
  have q1 : ((s.size : Int) - 16 < 0) = True := eq_true (by omega)
  have q2 : (s.size : Int) < 16 := by omega
  clear h
  go_enter Try.func12, Try.ntmps12
  go_wp2_with (fail)
  refine H.out.mono ?_
  rintro e u ⟨rfl, rfl⟩
  go_wp2_with (fail)
  go_ret2
  exact ⟨rfl, Below.refl _ _⟩
/-- Are the last sixteen bytes the tag of those ahead? -/
def tagOk (key nonce aad s : ByteArray) (k : Nat) : Bool := (tagS (wkS key) (nR key) nonce aad (s.extract 0 k)).toList == (s.extract k (k + 16)).toList
theorem same_iff (a b : ByteArray) : (a.toList == b.toList) = true ↔ a = b := by
  rw [beq_iff_eq, ByteArray.toList_eq, ByteArray.toList_eq]
  exact ⟨fun h => ByteArray.ext (Array.toList_inj.1 h), fun h => by rw [h]⟩
set_option maxHeartbeats 1000000 in
theorem ropen_ok (key nonce aad s : ByteArray) (k : Nat) (w : World) (h : gcmOk key nonce aad s 16 = true) (hk : s.size = k + 16) (ht : tagOk key nonce aad s k = true) :
    Calls Try.prog 12 #[.string key, .string nonce, .string aad, .string s] w fun e w' => e = .returned (.tuple #[.string (ctrS (wkS key) (nR key) nonce 2 (s.extract 0 k)), .int .i64 0]) ∧ Below w.heap.size w w' := by
  obtain ⟨h1, h2, h3, h4⟩ := gcmOk_parts h
  have H := Lib.hid (gcmMay_16 key nonce aad s w)
  rw [h] at H
  have HK := Lib.hid h1
  have HNo := Lib.hid h2
  have HT := Lib.hid ht
  have HA : Hid (aad.size ≤ 100000) := by show aad.size ≤ 100000; omega
  have HC : Hid ((s.extract 0 k).size ≤ 100000) := by show (s.extract 0 k).size ≤ 100000; rw [ByteArray.size_extract]; omega
  have q1 : (s.size : Int) - 16 = (k : Int) := by omega
  have k6 : k ≤ 65536 := by omega
  clear h h1 h2 h3 h4 ht
  go_enter Try.func12, Try.ntmps12
  go_wp2_with (fail)
  refine H.out.mono ?_
  rintro e u ⟨rfl, rfl⟩
  clear H
  go_wp2_with (fail)
  refine (sched_any key _ HK.out).mono ?_
  rintro e u1 ⟨g, len, cap, rfl, hb, hKy⟩
  have HB1 := Lib.hid hb
  have HKy := Lib.hid hKy
  clear hb hKy
  go_wp2_with (fail)
  have HKd : Hid (Key u1.drew g len (nR key) (wkS key)) := HKy.out
  have HB1d : Hid (Below w.heap.size w u1.drew) := HB1.out.drew
  have kk : (0 : Int) ≤ (k : Int) := by omega
  have kk2 : (k : Int) ≤ (k : Int) + 16 := by omega
  go_region_held3 (fun _ => True) (trivial)
    (first | (go_at_call 24; refine (tag_any cap nonce aad (s.extract 0 k) _ HKd.out HNo.out HA.out HC.out).mono ?_; rintro e u2 ⟨rfl, hb2⟩))
  have HB2 := Lib.hid (go_on HB1d.out hb2)
  have HK2 := Lib.hid (HKd.out.below hb2)
  have e1 : ((tagS (wkS key) (nR key) nonce aad (s.extract 0 k)).toList == (s.extract k (k + 16)).toList) = true := HT.out
  rw [e1]
  clear hb2 e1
  go_wp2_with (fail)
  refine (counter_2 cap nonce (s.extract 0 k) _ HK2.out HNo.out HC.out).mono ?_
  rintro e u3 ⟨rfl, hb⟩
  have HB3 := Lib.hid (go_on HB2.out hb)
  clear hb
  go_wp2_with (fail)
  go_ret2
  exact ⟨rfl, HB3.out⟩
set_option maxHeartbeats 1000000 in
theorem ropen_bad (key nonce aad s : ByteArray) (k : Nat) (w : World) (h : gcmOk key nonce aad s 16 = true) (hk : s.size = k + 16) (ht : tagOk key nonce aad s k = false) :
    Calls Try.prog 12 #[.string key, .string nonce, .string aad, .string s] w fun e w' => e = .returned (.tuple #[.string ⟨#[]⟩, .int .i64 501]) ∧ Below w.heap.size w w' := by
  obtain ⟨h1, h2, h3, h4⟩ := gcmOk_parts h
  have H := Lib.hid (gcmMay_16 key nonce aad s w)
  rw [h] at H
  have HK := Lib.hid h1
  have HNo := Lib.hid h2
  have HT := Lib.hid ht
  have HA : Hid (aad.size ≤ 100000) := by show aad.size ≤ 100000; omega
  have HC : Hid ((s.extract 0 k).size ≤ 100000) := by show (s.extract 0 k).size ≤ 100000; rw [ByteArray.size_extract]; omega
  have q1 : (s.size : Int) - 16 = (k : Int) := by omega
  have k6 : k ≤ 65536 := by omega
  clear h h1 h2 h3 h4 ht
  go_enter Try.func12, Try.ntmps12
  go_wp2_with (fail)
  refine H.out.mono ?_
  rintro e u ⟨rfl, rfl⟩
  clear H
  go_wp2_with (fail)
  refine (sched_any key _ HK.out).mono ?_
  rintro e u1 ⟨g, len, cap, rfl, hb, hKy⟩
  have HB1 := Lib.hid hb
  have HKy := Lib.hid hKy
  clear hb hKy
  go_wp2_with (fail)
  have HKd : Hid (Key u1.drew g len (nR key) (wkS key)) := HKy.out
  have HB1d : Hid (Below w.heap.size w u1.drew) := HB1.out.drew
  have kk : (0 : Int) ≤ (k : Int) := by omega
  have kk2 : (k : Int) ≤ (k : Int) + 16 := by omega
  go_region_held3 (fun _ => True) (trivial)
    (first | (go_at_call 24; refine (tag_any cap nonce aad (s.extract 0 k) _ HKd.out HNo.out HA.out HC.out).mono ?_; rintro e u2 ⟨rfl, hb2⟩))
  have HB2 := Lib.hid (go_on HB1d.out hb2)
  have HK2 := Lib.hid (HKd.out.below hb2)
  have e1 : ((tagS (wkS key) (nR key) nonce aad (s.extract 0 k)).toList == (s.extract k (k + 16)).toList) = false := HT.out
  rw [e1]
  clear hb2 e1
  go_wp2_with (fail)
  go_ret2
  exact ⟨rfl, HB2.out⟩
def openB (key nonce aad s : ByteArray) : Bool := gcmOk key nonce aad s 16 && (decide (16 ≤ s.size) && tagOk key nonce aad s (s.size - 16))
def openS (key nonce aad s : ByteArray) : ByteArray := bif openB key nonce aad s then ctrS (wkS key) (nR key) nonce 2 (s.extract 0 (s.size - 16)) else ⟨#[]⟩
def openE (key nonce aad s : ByteArray) : Int := bif openB key nonce aad s then 0 else bif gcmOk key nonce aad s 16 then 501 else 500
theorem ropen_any (key nonce aad s : ByteArray) (w : World) :
    Calls Try.prog 12 #[.string key, .string nonce, .string aad, .string s] w fun e w' => e = .returned (.tuple #[.string (openS key nonce aad s), .int .i64 (openE key nonce aad s)]) ∧ Below w.heap.size w w' := by
  cases h : gcmOk key nonce aad s 16
  · have o : openB key nonce aad s = false := by unfold openB; rw [h]; rfl
    rw [show openS key nonce aad s = ⟨#[]⟩ by unfold openS; rw [o]; rfl, show openE key nonce aad s = 500 by unfold openE; rw [o, h]; rfl]
    exact ropen_no key nonce aad s w h
  · by_cases hs : s.size < 16
    · have o : openB key nonce aad s = false := by unfold openB; rw [h, decide_eq_false (show ¬ 16 ≤ s.size by omega)]; rfl
      rw [show openS key nonce aad s = ⟨#[]⟩ by unfold openS; rw [o]; rfl, show openE key nonce aad s = 501 by unfold openE; rw [o, h]; rfl]
      exact ropen_short key nonce aad s w h hs
    · obtain ⟨k, hk⟩ : ∃ k, s.size = k + 16 := ⟨s.size - 16, by omega⟩
      have hk2 : s.size - 16 = k := by omega
      cases ht : tagOk key nonce aad s k
      · have o : openB key nonce aad s = false := by unfold openB; rw [hk2, ht]; simp
        rw [show openS key nonce aad s = ⟨#[]⟩ by unfold openS; rw [o]; rfl, show openE key nonce aad s = 501 by unfold openE; rw [o, h]; rfl]
        exact ropen_bad key nonce aad s k w h hk ht
      · have o : openB key nonce aad s = true := by unfold openB; rw [h, decide_eq_true (show 16 ≤ s.size by omega), hk2, ht]; rfl
        rw [show openS key nonce aad s = ctrS (wkS key) (nR key) nonce 2 (s.extract 0 k) by unfold openS; rw [o, hk2]; rfl, show openE key nonce aad s = 0 by unfold openE; rw [o]; rfl]
        exact ropen_ok key nonce aad s k w h hk ht
end Go.Proofs.Gcm
