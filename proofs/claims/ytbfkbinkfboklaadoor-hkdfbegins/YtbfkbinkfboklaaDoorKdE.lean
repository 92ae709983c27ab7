/-
  The developers' hkdf: Hmac, Extract, Expand at every input.
-/
import Derived.Test.YtbfkbinkfboklaaDoorKdD
namespace Go.Proofs.Kd
open Go.RowKit Go.Proofs.Be Go.Proofs.Sha Go.Proofs.Hk Go.Proofs.Im
theorem Mac.alloc {w : World} {gi go : Nat} {wide : Bool} {key : ByteArray} (h : Mac w wide gi go key) (o : Obj) : Mac (w.alloc o) wide gi go key := ⟨Wrote.alloc h.1 o, Wrote.alloc h.2 o⟩
theorem strs_one' (u : World) (o : Obj) (p : ByteArray) : Strs ((u.alloc o).alloc (.cells #[.string p] 9)) (u.heap.size + 1) 1 [p] := by
  have h := Strs.one (u.alloc o) p
  rwa [show (u.alloc o).heap.size = u.heap.size + 1 by simp] at h
theorem below_two {B : Nat} {w u : World} (h : Below B w u) (hB : B ≤ u.heap.size) (a b : Obj) : Below B w ((u.alloc a).alloc b) := (h.alloc hB a).alloc (by simp; omega) b
set_option maxHeartbeats 1000000 in
theorem hmac_ok (wide : Bool) (key s : ByteArray) (w : World) (hT : Tab w) (hk : key.size ≤ 288230376151711744) (hs : s.size ≤ 144115188075855872) :
    Calls Tryd.prog 8 #[.int .i64 (bitsK wide), .string key, .string s] w fun e w' => e = .returned (.tuple #[.string (macS (bitsK wide) key s), .int .i64 0]) ∧ Below w.heap.size w w' := by
  have HT := Lib.hid hT
  have HS := Lib.hid hs
  have HK := Lib.hid hk
  clear hT hs hk
  go_enter Tryd.func8, Tryd.ntmps8
  go_wp2_with (fail)
  refine (keyed_any wide key _ HT.out HK.out).mono ?_
  rintro e u ⟨gi, go, rfl, hb, hM⟩
  have HB := Lib.hid hb
  have HM := Lib.hid hM
  clear hb hM
  go_wp2_with (fail)
  have HM2 := Lib.hid ((HM.out.alloc (.cells #[.pointer (some ⟨gi, 0, none⟩), .pointer (some ⟨go, 0, none⟩)] 43)).alloc (.cells #[.string s] 9))
  have HB2 := Lib.hid (below_two HB.out HB.out.size (.cells #[.pointer (some ⟨gi, 0, none⟩), .pointer (some ⟨go, 0, none⟩)] 43) (.cells #[.string s] 9))
  have HStr := Lib.hid (strs_one' u (.cells #[.pointer (some ⟨gi, 0, none⟩), .pointer (some ⟨go, 0, none⟩)] 43) s)
  generalize (u.alloc (.cells #[.pointer (some ⟨gi, 0, none⟩), .pointer (some ⟨go, 0, none⟩)] 43)).alloc (.cells #[.string s] 9) = u2 at HM2 HB2 HStr ⊢
  refine (ksum_any wide gi go key [s] (u.heap.size + 1) 1 _ HM2.out HStr.out (tab_of HT.out HB2.out) (by rw [joinS_one]; exact HS.out) (by decide)).mono ?_
  rw [joinS_one]
  rintro e v ⟨rfl, hv⟩
  go_wp2_with (fail)
  go_ret2
  exact ⟨rfl, go_on HB2.out hv⟩
set_option maxHeartbeats 1000000 in
theorem hmac_none (bits : Int) (key s : ByteArray) (w : World) (h : ¬ bits = 256) (h' : ¬ bits = 384) :
    Calls Tryd.prog 8 #[.int .i64 bits, .string key, .string s] w fun e w' => e = .returned (.tuple #[.string ⟨#[]⟩, .int .i64 300]) ∧ Below w.heap.size w w' := by
  go_enter Tryd.func8, Tryd.ntmps8
  go_wp2_with (fail)
  refine (keyed_none bits key _ h h').mono ?_
  rintro e u ⟨rfl, hb⟩
  have HB := Lib.hid hb
  clear hb
  go_wp2_with (fail)
  go_ret2
  exact ⟨rfl, HB.out.alloc HB.out.size _⟩
theorem may_no {bits : Int} (h : ¬ bits = 256) (h' : ¬ bits = 384) : may bits = false := by simp [may, h, h']
theorem hmac_any (bits : Int) (key s : ByteArray) (w : World) (hT : Tab w) (hk : key.size ≤ 288230376151711744) (hs : s.size ≤ 144115188075855872) :
    Calls Tryd.prog 8 #[.int .i64 bits, .string key, .string s] w fun e w' => e = .returned (.tuple #[.string (hmacS bits key s), .int .i64 (hmacE bits)]) ∧ Below w.heap.size w w' := by
  by_cases h : bits = 256
  · subst h; exact hmac_ok false key s w hT hk hs
  · by_cases h' : bits = 384
    · subst h'; exact hmac_ok true key s w hT hk hs
    · rw [show hmacS bits key s = ⟨#[]⟩ by unfold hmacS; rw [may_no h h']; rfl, show hmacE bits = 300 by unfold hmacE; rw [may_no h h']; rfl]
      exact hmac_none bits key s w h h'
set_option maxHeartbeats 400000 in
theorem extract_any (bits : Int) (key s : ByteArray) (w : World) (hT : Tab w) (hk : key.size ≤ 288230376151711744) (hs : s.size ≤ 144115188075855872) :
    Calls Tryd.prog 10 #[.int .i64 bits, .string key, .string s] w fun e w' => e = .returned (.tuple #[.string (hmacS bits key s), .int .i64 (hmacE bits)]) ∧ Below w.heap.size w w' := by
  have HT := Lib.hid hT
  have HS := Lib.hid hs
  have HK := Lib.hid hk
  clear hT hs hk
  go_enter Tryd.func10, Tryd.ntmps10
  go_wp2_with (fail)
  refine (hmac_any bits key s _ HT.out HK.out HS.out).mono ?_
  rintro e v ⟨rfl, hv⟩
  go_wp2_with (fail)
  go_ret2
  exact ⟨rfl, hv⟩
theorem digestSize_any (wide : Bool) (w : World) : Calls Tryd.prog 22 #[.int .i64 (bitsK wide)] w fun e w' => e = .returned (.int .i64 (dK wide : Nat)) ∧ w = w' := by
  cases wide
  · show Calls Tryd.prog 22 #[.int .i64 256] w _
    go_enter Tryd.func22, Tryd.ntmps22
    go_wp2
    go_ret
    exact ⟨rfl, rfl⟩
  · show Calls Tryd.prog 22 #[.int .i64 384] w _
    go_enter Tryd.func22, Tryd.ntmps22
    go_wp2
    go_ret
    exact ⟨rfl, rfl⟩
set_option maxHeartbeats 1000000 in
theorem expand_none (bits z : Int) (key info : ByteArray) (w : World) (h : ¬ bits = 256) (h' : ¬ bits = 384) :
    Calls Tryd.prog 11 #[.int .i64 bits, .string key, .string info, .int .i64 z] w fun e w' => e = .returned (.tuple #[.string ⟨#[]⟩, .int .i64 300]) ∧ Below w.heap.size w w' := by
  go_enter Tryd.func11, Tryd.ntmps11
  go_wp2_with (fail)
  refine (keyed_none bits key _ h h').mono ?_
  rintro e u ⟨rfl, hb⟩
  have HB := Lib.hid hb
  clear hb
  go_wp2_with (fail)
  go_ret2
  exact ⟨rfl, HB.out.alloc HB.out.size _⟩
set_option maxHeartbeats 1000000 in
theorem expand_neg (wide : Bool) (z : Int) (key info : ByteArray) (w : World) (hT : Tab w) (hk : key.size ≤ 288230376151711744) (hz : z < 0) :
    Calls Tryd.prog 11 #[.int .i64 (bitsK wide), .string key, .string info, .int .i64 z] w fun e w' => e = .returned (.tuple #[.string ⟨#[]⟩, .int .i64 300]) ∧ Below w.heap.size w w' := by
  have HT := Lib.hid hT
  have HK := Lib.hid hk
  clear hT hk
  go_enter Tryd.func11, Tryd.ntmps11
  go_wp2_with (fail)
  refine (keyed_any wide key _ HT.out HK.out).mono ?_
  rintro e u ⟨gi, go, rfl, hb, hM⟩
  have HB := Lib.hid hb
  clear hb hM
  go_wp2_with (fail)
  go_ret2
  exact ⟨rfl, HB.out.alloc HB.out.size _⟩
set_option maxHeartbeats 1000000 in
theorem expand_great (wide : Bool) (z : Int) (key info : ByteArray) (w : World) (hT : Tab w) (hk : key.size ≤ 288230376151711744) (hz : 255 * (dK wide : Int) < z) :
    Calls Tryd.prog 11 #[.int .i64 (bitsK wide), .string key, .string info, .int .i64 z] w fun e w' => e = .returned (.tuple #[.string ⟨#[]⟩, .int .i64 300]) ∧ Below w.heap.size w w' := by
  have HT := Lib.hid hT
  have HK := Lib.hid hk
  have HD := Lib.hid (digestSize_any wide)
  have d2 := dK_le wide
  generalize dK wide = D at hz HD d2
  have z0 : ¬ z < 0 := by omega
  clear hT hk
  go_enter Tryd.func11, Tryd.ntmps11
  go_wp2_with (fail)
  refine (keyed_any wide key _ HT.out HK.out).mono ?_
  rintro e u ⟨gi, go, rfl, hb, hM⟩
  have HB := Lib.hid hb
  clear hb hM
  go_wp2_with (go_at_call 22; refine (HD.out _).mono ?_; rintro e x ⟨rfl, rfl⟩)
  go_ret2
  exact ⟨rfl, HB.out.alloc HB.out.size _⟩
set_option maxHeartbeats 1000000 in
theorem expand_ok (wide : Bool) (z : Nat) (key info : ByteArray) (w : World) (hT : Tab w) (hk : key.size ≤ 288230376151711744) (hi : info.size ≤ 72057594037927936) (hz : z ≤ 255 * dK wide) :
    Calls Tryd.prog 11 #[.int .i64 (bitsK wide), .string key, .string info, .int .i64 z] w fun e w' => e = .returned (.tuple #[.string ((outS (bitsK wide) key info (upTo (dK wide) z)).extract 0 z), .int .i64 0]) ∧ Below w.heap.size w w' := by
  have HT := Lib.hid hT
  have HK := Lib.hid hk
  have HI := Lib.hid hi
  have HZ := Lib.hid hz
  have HD := Lib.hid (digestSize_any wide)
  have d2 := dK_le wide
  have HR := Lib.hid (fun gi go u hM hT' => stream_any wide gi go key info z u hM hT' HZ.out HI.out)
  clear HZ
  generalize dK wide = D at hz HD d2 HR ⊢
  have z0 : ¬ (z : Int) < 0 := by omega
  have z1 : ¬ 255 * (D : Int) < z := by omega
  clear hT hk hi
  go_enter Tryd.func11, Tryd.ntmps11
  go_wp2_with (fail)
  refine (keyed_any wide key _ HT.out HK.out).mono ?_
  rintro e u ⟨gi, go, rfl, hb, hM⟩
  have HB := Lib.hid (hb.alloc hb.size (.cells #[.pointer (some ⟨gi, 0, none⟩), .pointer (some ⟨go, 0, none⟩)] 43))
  have HM := Lib.hid (hM.alloc (.cells #[.pointer (some ⟨gi, 0, none⟩), .pointer (some ⟨go, 0, none⟩)] 43))
  clear hb hM
  go_wp2_with (go_at_call 22; refine (HD.out _).mono ?_; rintro e x ⟨rfl, rfl⟩)
  refine (HR.out gi go _ HM.out (tab_of HT.out HB.out)).mono ?_
  rintro e v ⟨rfl, hv⟩
  go_wp2_with (fail)
  go_ret2
  exact ⟨rfl, go_on HB.out hv⟩
end Go.Proofs.Kd
