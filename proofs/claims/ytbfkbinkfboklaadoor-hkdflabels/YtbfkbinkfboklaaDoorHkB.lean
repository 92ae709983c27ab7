/-
  The document's own answer: Mac, Hmac.
-/
import Derived.Test.YtbfkbinkfboklaaDoorShaG
import Derived.Test.YtbfkbinkfboklaaDoorHkA
namespace Go.Proofs.Hk
open Go.RowKit Go.Proofs.Be Go.Proofs.Sha
/-- A block's size. -/
def bS (b : Int) : Nat := if b = 384 then 128 else 64
def keyS (b : Int) (key : ByteArray) : ByteArray := if bS b < key.size then digS b key else key
def macS (b : Int) (key s : ByteArray) : ByteArray := digS b (xorS (keyS b key) 92 (bS b) ++ digS b (xorS (keyS b key) 54 (bS b) ++ s))
theorem macS_le (b : Int) (key s : ByteArray) : (macS b key s).size ≤ 48 := digS_le _ _
theorem macS_size (b : Int) (key s : ByteArray) (h : may b = true) : (macS b key s).size = (b / 8).toNat := digS_size _ _ h
theorem xored_64 (s : ByteArray) (b : Nat) (w : World) (hb : b < 256) :
    Calls Tryd.prog 33 #[.string s, .int .u8 b, .int .i64 64] w fun e w' => e = .returned (.string (xorS s b 64)) ∧ Below w.heap.size w w' := xored_any s b 64 w hb (by decide)
theorem xored_128 (s : ByteArray) (b : Nat) (w : World) (hb : b < 256) :
    Calls Tryd.prog 33 #[.string s, .int .u8 b, .int .i64 128] w fun e w' => e = .returned (.string (xorS s b 128)) ∧ Below w.heap.size w w' := xored_any s b 128 w hb (by decide)
set_option maxHeartbeats 1000000 in
set_option maxRecDepth 100000 in
theorem mac_any (b : Int) (key s : ByteArray) (w : World) (hk : key.size ≤ 288230376151711744) (hs : s.size ≤ 144115188075855872) :
    Calls Tryd.prog 21 #[.int .i64 b, .string key, .string s] w fun e w' => e = .returned (.string (macS b key s)) ∧ Below w.heap.size w w' := by
  by_cases hb : b = 384
  · have e1 : bS b = 128 := by simp [bS, hb]
    have b1 : (b == 384) = true := by simpa using hb
    clear hb
    by_cases hl : 128 < key.size
    · have e2 : keyS b key = (digS b key) := by simp [keyS, e1, hl]
      unfold macS
      rw [e2, e1]
      clear e1 e2
      have hl' : (128 : Int) < key.size := by omega
      have z1 := xorS_size (digS b key) 54 128
      have z2 := xorS_size (digS b key) 92 128
      have z3 := digS_le b (xorS (digS b key) 54 128 ++ s)
      go_enter Tryd.func21, Tryd.ntmps21
      go_wp2_with (fail)
      refine (rhash_any b key _ hk).mono ?_
      rintro e u0 ⟨rfl, hb0⟩
      go_wp2_with (fail)
      refine (xored_128 (digS b key) 92 _ (by decide)).mono ?_
      rintro e u1 ⟨rfl, hb1⟩
      go_wp2_with (fail)
      refine (xored_128 (digS b key) 54 _ (by decide)).mono ?_
      rintro e u2 ⟨rfl, hb2⟩
      go_wp2_with (fail)
      refine (rhash_any b (xorS (digS b key) 54 128 ++ s) _ (by rw [ByteArray.size_append, z1]; omega)).mono ?_
      rintro e u3 ⟨rfl, hb3⟩
      go_wp2_with (fail)
      refine (rhash_any b (xorS (digS b key) 92 128 ++ digS b (xorS (digS b key) 54 128 ++ s)) _ (by rw [ByteArray.size_append, z2]; omega)).mono ?_
      rintro e u4 ⟨rfl, hb4⟩
      go_wp2_with (fail)
      go_ret
      have c1 := hb0.trans (hb1.mono hb0.size)
      have c2 := c1.trans (hb2.mono c1.size)
      have c3 := c2.trans (hb3.mono c2.size)
      exact ⟨rfl, c3.trans (hb4.mono c3.size)⟩
    · have e2 : keyS b key = key := by simp [keyS, e1, hl]
      unfold macS
      rw [e2, e1]
      clear e1 e2
      have hl' : ¬ (128 : Int) < key.size := by omega
      have z1 := xorS_size key 54 128
      have z2 := xorS_size key 92 128
      have z3 := digS_le b (xorS key 54 128 ++ s)
      go_enter Tryd.func21, Tryd.ntmps21
      go_wp2_with (fail)
      refine (xored_128 key 92 _ (by decide)).mono ?_
      rintro e u1 ⟨rfl, hb1⟩
      go_wp2_with (fail)
      refine (xored_128 key 54 _ (by decide)).mono ?_
      rintro e u2 ⟨rfl, hb2⟩
      go_wp2_with (fail)
      refine (rhash_any b (xorS key 54 128 ++ s) _ (by rw [ByteArray.size_append, z1]; omega)).mono ?_
      rintro e u3 ⟨rfl, hb3⟩
      go_wp2_with (fail)
      refine (rhash_any b (xorS key 92 128 ++ digS b (xorS key 54 128 ++ s)) _ (by rw [ByteArray.size_append, z2]; omega)).mono ?_
      rintro e u4 ⟨rfl, hb4⟩
      go_wp2_with (fail)
      go_ret
      have c1 := hb1
      have c2 := c1.trans (hb2.mono c1.size)
      have c3 := c2.trans (hb3.mono c2.size)
      exact ⟨rfl, c3.trans (hb4.mono c3.size)⟩
  · have e1 : bS b = 64 := by simp [bS, hb]
    have b1 : (b == 384) = false := by simpa using hb
    clear hb
    by_cases hl : 64 < key.size
    · have e2 : keyS b key = (digS b key) := by simp [keyS, e1, hl]
      unfold macS
      rw [e2, e1]
      clear e1 e2
      have hl' : (64 : Int) < key.size := by omega
      have z1 := xorS_size (digS b key) 54 64
      have z2 := xorS_size (digS b key) 92 64
      have z3 := digS_le b (xorS (digS b key) 54 64 ++ s)
      go_enter Tryd.func21, Tryd.ntmps21
      go_wp2_with (fail)
      refine (rhash_any b key _ hk).mono ?_
      rintro e u0 ⟨rfl, hb0⟩
      go_wp2_with (fail)
      refine (xored_64 (digS b key) 92 _ (by decide)).mono ?_
      rintro e u1 ⟨rfl, hb1⟩
      go_wp2_with (fail)
      refine (xored_64 (digS b key) 54 _ (by decide)).mono ?_
      rintro e u2 ⟨rfl, hb2⟩
      go_wp2_with (fail)
      refine (rhash_any b (xorS (digS b key) 54 64 ++ s) _ (by rw [ByteArray.size_append, z1]; omega)).mono ?_
      rintro e u3 ⟨rfl, hb3⟩
      go_wp2_with (fail)
      refine (rhash_any b (xorS (digS b key) 92 64 ++ digS b (xorS (digS b key) 54 64 ++ s)) _ (by rw [ByteArray.size_append, z2]; omega)).mono ?_
      rintro e u4 ⟨rfl, hb4⟩
      go_wp2_with (fail)
      go_ret
      have c1 := hb0.trans (hb1.mono hb0.size)
      have c2 := c1.trans (hb2.mono c1.size)
      have c3 := c2.trans (hb3.mono c2.size)
      exact ⟨rfl, c3.trans (hb4.mono c3.size)⟩
    · have e2 : keyS b key = key := by simp [keyS, e1, hl]
      unfold macS
      rw [e2, e1]
      clear e1 e2
      have hl' : ¬ (64 : Int) < key.size := by omega
      have z1 := xorS_size key 54 64
      have z2 := xorS_size key 92 64
      have z3 := digS_le b (xorS key 54 64 ++ s)
      go_enter Tryd.func21, Tryd.ntmps21
      go_wp2_with (fail)
      refine (xored_64 key 92 _ (by decide)).mono ?_
      rintro e u1 ⟨rfl, hb1⟩
      go_wp2_with (fail)
      refine (xored_64 key 54 _ (by decide)).mono ?_
      rintro e u2 ⟨rfl, hb2⟩
      go_wp2_with (fail)
      refine (rhash_any b (xorS key 54 64 ++ s) _ (by rw [ByteArray.size_append, z1]; omega)).mono ?_
      rintro e u3 ⟨rfl, hb3⟩
      go_wp2_with (fail)
      refine (rhash_any b (xorS key 92 64 ++ digS b (xorS key 54 64 ++ s)) _ (by rw [ByteArray.size_append, z2]; omega)).mono ?_
      rintro e u4 ⟨rfl, hb4⟩
      go_wp2_with (fail)
      go_ret
      have c1 := hb1
      have c2 := c1.trans (hb2.mono c1.size)
      have c3 := c2.trans (hb3.mono c2.size)
      exact ⟨rfl, c3.trans (hb4.mono c3.size)⟩
def hmacS (b : Int) (key s : ByteArray) : ByteArray := bif may b then macS b key s else ⟨#[]⟩
def hmacE (b : Int) : Int := bif may b then 0 else 300
set_option maxHeartbeats 400000 in
theorem rhmac_any (b : Int) (key s : ByteArray) (w : World) (hk : key.size ≤ 288230376151711744) (hs : s.size ≤ 144115188075855872) :
    Calls Tryd.prog 9 #[.int .i64 b, .string key, .string s] w fun e w' => e = .returned (.tuple #[.string (hmacS b key s), .int .i64 (hmacE b)]) ∧ Below w.heap.size w w' := by
  cases hm : may b
  · rw [show hmacS b key s = ⟨#[]⟩ by simp [hmacS, hm], show hmacE b = 300 by simp [hmacE, hm]]
    go_enter Tryd.func9, Tryd.ntmps9
    go_wp2_with (fail)
    refine (may_any b _).mono ?_
    rintro e u ⟨rfl, rfl⟩
    go_wp2_with (fail)
    go_ret2
    exact ⟨rfl, Below.refl _ _⟩
  · rw [show hmacS b key s = macS b key s by simp [hmacS, hm], show hmacE b = 0 by simp [hmacE, hm]]
    go_enter Tryd.func9, Tryd.ntmps9
    go_wp2_with (fail)
    refine (may_any b _).mono ?_
    rintro e u ⟨rfl, rfl⟩
    go_wp2_with (fail)
    refine (mac_any b key s _ hk hs).mono ?_
    rintro e u ⟨rfl, hb⟩
    go_wp2_with (fail)
    go_ret2
    exact ⟨rfl, hb⟩
end Go.Proofs.Hk
